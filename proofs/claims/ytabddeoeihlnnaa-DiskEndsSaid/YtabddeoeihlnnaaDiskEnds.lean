/- DiskEnds: the walk. -/
import Derived.Test.YtabddeoeihlnnaaDiskTold
namespace Go.Proofs.Ytabddeoeihlnnaa
open Go.RowKit Go.Maps DiskMath Reg

/-- Up, and no fuse burns. -/
def Calm (s : St) : Prop := s.off = false ∧ s.fuse = -1

theorem calm_burn {s : St} (h : Calm s) : s.burn = s := by
  unfold St.burn
  rw [if_neg (by rw [h.2]; omega), if_neg (by rw [h.2]; omega)]

theorem calm_run {s : St} (h : Calm s) (o : AOp) : Calm (s.run o) ∧ (s.run o).sure = s.sure := by
  unfold St.run
  rw [if_neg (by rw [h.2]; omega), calm_burn h]
  exact ⟨h, rfl⟩

theorem calm_step {k : Nat} {o : LOp} {s : St} (hk : k ≤ 5) (h : Calm s) : Calm (stepA k o s) ∧ ((stepA k o s).sure = s.sure ∨ (stepA k o s).ops = []) := by
  have hrun := fun p => calm_run h p
  have hcase : k = 0 ∨ k = 1 ∨ k = 2 ∨ k = 3 ∨ k = 4 ∨ k = 5 := by omega
  rcases hcase with rfl | rfl | rfl | rfl | rfl | rfl
  · show Calm (s.write o.name o.n o.b).2 ∧ ((s.write o.name o.n o.b).2.sure = s.sure ∨ _)
    unfold St.write
    split
    · exact ⟨h, .inl rfl⟩
    · split
      · exact ⟨h, .inl rfl⟩
      · split
        · exact ⟨h, .inl rfl⟩
        · split
          · exact ⟨h, .inl rfl⟩
          · exact ⟨(hrun _).1, .inl (hrun _).2⟩
  · show Calm (s.cut o.name o.n).2 ∧ ((s.cut o.name o.n).2.sure = s.sure ∨ _)
    unfold St.cut
    split
    · exact ⟨h, .inl rfl⟩
    · split
      · exact ⟨h, .inl rfl⟩
      · split
        · exact ⟨h, .inl rfl⟩
        · exact ⟨(hrun _).1, .inl (hrun _).2⟩
  · show Calm (s.remove o.name).2 ∧ ((s.remove o.name).2.sure = s.sure ∨ _)
    unfold St.remove
    split
    · exact ⟨h, .inl rfl⟩
    · split
      · exact ⟨h, .inl rfl⟩
      · exact ⟨(hrun _).1, .inl (hrun _).2⟩
  · show Calm (s.rename o.name o.q).2 ∧ ((s.rename o.name o.q).2.sure = s.sure ∨ _)
    unfold St.rename
    split
    · exact ⟨h, .inl rfl⟩
    · split
      · exact ⟨h, .inl rfl⟩
      · split
        · exact ⟨h, .inl rfl⟩
        · exact ⟨(hrun _).1, .inl (hrun _).2⟩
  · show Calm s.sync.2 ∧ (s.sync.2.sure = s.sure ∨ s.sync.2.ops = [])
    unfold St.sync
    split
    · exact ⟨h, .inl rfl⟩
    · rw [if_neg (by rw [h.2]; omega), calm_burn h]
      exact ⟨h, .inr rfl⟩
  · exact ⟨h, .inl rfl⟩

theorem kept_all : ∀ l : List AOp, keptA l (List.replicate l.length true) = l
  | [] => rfl
  | o :: r => by
    have ih := kept_all r
    simp only [List.length_cons, List.replicate_succ, keptA, if_true, ih]

theorem kept_no : ∀ l : List AOp, keptA l (List.replicate l.length false) = []
  | [] => rfl
  | o :: r => by
    have ih := kept_no r
    simp only [List.length_cons, List.replicate_succ, keptA, Bool.false_eq_true, if_false, ih]

theorem torn_far {t : Int} : ∀ l : List AOp, (∀ o ∈ l, (o.b.length : Int) ≤ t) → tornA t l = l
  | [], _ => rfl
  | [o], h => by
    have h1 := h o (by simp)
    unfold tornA
    rw [List.take_of_length_le (by omega)]
  | o :: o' :: r, h => by
    have ih := torn_far (o' :: r) fun x hx => h x (List.mem_cons_of_mem _ hx)
    rw [tornA, ih]

theorem crash_keep {c : Nat} {s : St} (h : Ok c s) : (s.crash (List.replicate s.ops.length true) 1073741824).now = s.now := by
  show doAllA _ s.sure = s.now
  rw [kept_all, torn_far _ fun o ho => by have := (h.fitO o ho).2.2.2.2.2.1; omega, ← h.now]

theorem crash_lose {s : St} : (s.crash (List.replicate s.ops.length false) 1073741824).now = s.sure := by
  show doAllA _ s.sure = s.sure
  rw [kept_no]
  rfl

theorem ok_of {w : World} {T : Nat → Prop} {d c : Nat} {s : St} (h : IsDisk w T d c s) : Ok c s := by
  obtain ⟨m1, m2, F1, F2, ws, G, hd, -⟩ := h.ex
  exact hd.ok

theorem ops_small {w : World} {T : Nat → Prop} {d c : Nat} {s : St} (h : IsDisk w T d c s) : s.ops.length ≤ 2000 ∧ s.now.length ≤ 2000 ∧ s.sure.length ≤ 2000 := by
  obtain ⟨m1, m2, F1, F2, ws, G, hd, -⟩ := h.ex
  have h1 := hd.ok.few
  have h2 := hd.ok.fewN
  have h3 := hd.small
  omega

theorem waitingT {w : World} {T : Nat → Prop} {d c : Nat} {s : St} (h : IsDisk w T d c s) : Calls Try.prog 15 #[dp d] w fun e w' => e = .returned (.int .i64 (s.ops.length : Int)) ∧ w = w' := by
  obtain ⟨m1, m2, F1, F2, ws, G, hd, -⟩ := h.ex
  exact waiting_any hd

/-- Between two rounds. -/
structure EndsAt (w W : World) (d r c : Nat) (s : St) (v : Value) : Prop where
  ex : ∃ T S, Two w W T S d r c c s s ∧ ∀ k, v.ownBlock = some k → ¬ T k ∧ ¬ S k
  calm : Calm s
  sure : Nms W w.heap.size v (toldL s.sure)

theorem Nms.only {W W' : World} {B : Nat} {v : Value} {l : List Nm} {X : Nat → Prop} (h : Nms W B v l) (ho : OnlyS X W W') (hX : ∀ k, v.ownBlock = some k → ¬ X k) : Nms W' B v l := ownRow_same h fun k hk => ho.block k (World.ownsRow.lt h k hk).2 (hX k hk)

theorem EndsAt.skip {w W W' : World} {d r c : Nat} {s : St} {v : Value} (h : EndsAt w W d r c s v) (hb : Below W.heap.size W W') (hc : c + 1 ≤ 2000) : EndsAt w W' d r (c + 1) s v := by
  obtain ⟨⟨T, S, h1, h2⟩, h3, h4⟩ := h
  exact ⟨⟨T, S, (h1.below hb).mono (Nat.le_succ c) hc, h2⟩, h3, h4.below hb⟩

/-- Behind a call: what was told of the sure files stands, where they are the same. -/
theorem ends_did {w W W' : World} {T S : Nat → Prop} {d r c : Nat} {s s1 : St} {v : Value} (hv : ∀ k, v.ownBlock = some k → ¬ T k ∧ ¬ S k) (hn : Nms W w.heap.size v (toldL s.sure)) (hc : Calm s1) (hs : s1.sure = s.sure) (hd : DidEnd w W T S d r (c + 1) s1 W') : EndsAt w W' d r (c + 1) s1 v := by
  obtain ⟨⟨T', S', h1, h2, h3⟩, h4⟩ := hd
  refine ⟨⟨T', S', h1, fun k hk => ?_⟩, hc, ?_⟩
  · have hlt := (World.ownsRow.lt hn k hk).2
    refine ⟨fun ht => ?_, fun ht => ?_⟩
    · rcases h2 k ht with h | h
      · exact (hv k hk).1 h
      · omega
    · rcases h3 k ht with h | h
      · exact (hv k hk).2 h
      · omega
  · rw [hs]
    exact hn.only h4 fun k hk e => by
      rcases e with e | e
      · exact (hv k hk).1 e
      · exact (hv k hk).2 e

/-- Behind a call after which nothing waits: what is told anew. -/
theorem ends_new {w W W' : World} {T S : Nat → Prop} {d r c : Nat} {s1 : St} {v : Value} (h1 : Two w W T S d r c c s1 s1) (hc : Calm s1) (ho : s1.ops = []) (hb : Below W.heap.size W W') (hn : Nms W' W.heap.size v (toldL s1.now)) : EndsAt w W' d r c s1 v := by
  have hs : s1.now = s1.sure := by
    have := (ok_of h1.disk).now
    rw [ho] at this
    exact this
  rw [hs] at hn
  refine ⟨⟨T, S, h1.below hb, fun k hk => ?_⟩, hc, ownsRow_base_a hn h1.bel.size⟩
  have hk2 := (World.ownsRow.lt hn k hk).1
  exact ⟨fun ht => by have := h1.disk.lt k ht; omega, fun ht => by have := h1.ref.lt k ht; omega⟩

theorem info_bool : (Try.prog.info? 4).map (fun i => (i.zero, i.size, i.bytes)) = some (some (.bool false), 1, 1) := by kernel_rfl

/-- append(keep, all). -/
theorem add_bool {w : World} {B : Nat} {v : Value} {n : Nat} {b : Bool} (h : w.ownsRow B 4 1 v n (List.replicate n (.bool b))) (hB : B ≤ w.heap.size) (hl : n ≤ 100000) {g : Nat} (hg : Blk w g 4 #[.bool b]) :
    ∃ v' w', (Builtin.append_ #[31, 31] 31 #[v, .slice (some ⟨g, 0, none⟩) 1 1]).run Try.prog w = .ok v' w' ∧ (w'.ownsRow B 4 1 v' (n + 1) (List.replicate (n + 1) (.bool b)) ∧ w.grownBy w' v.ownBlock) := by
  obtain ⟨i0, hi, hz0, hz1, hz2⟩ := info_parts info_bool
  obtain ⟨v', w', hr, h1, h2, -⟩ := run_append_own (P := Try.prog) w B 31 31 4 i0 (.bool false) 1 1 Try.underlying31 hi hz0 hz1 hz2 rfl (by decide) v n (List.replicate n (.bool b)) h ⟨g, 0, none⟩ 1 1 [.bool b] rfl
    (fun j u hj => by rw [addr_add, Nat.zero_add, hg.cell]; simpa using hj) (by intro u hu; simp at hu; rw [hu]; rfl) (by unfold maxLen; omega) (by omega) hB
  refine ⟨v', w', hr, ?_, h2⟩
  rw [List.replicate_succ']
  exact h1

theorem bls_row {w : World} {B : Nat} {v : Value} {n : Nat} {b : Bool} (h : w.ownsRow B 4 1 v n (List.replicate n (.bool b))) : Bls w v (List.replicate n b) ∧ ∃ a c, v = .slice a n c := by
  rcases h.2 with ⟨rfl, h0⟩ | ⟨g, cap, cur, rfl, _, hg, hn, hm, hs, ht⟩
  · subst h0
    exact ⟨⟨none, 0, rfl, fun i b hi => by simp at hi⟩, none, 0, rfl⟩
  · refine ⟨⟨some ⟨g, 0, none⟩, cap, by simp, fun i x hi => ⟨_, rfl, ?_⟩⟩, _, _, rfl⟩
    have hlt := (List.getElem?_eq_some_iff.1 hi).1
    rw [List.length_replicate] at hlt
    rw [addr_add, Nat.zero_add, World.ownsRow.cellAt h _ (by simpa using hlt)]
    rw [List.getElem?_replicate] at hi ⊢
    rw [if_pos hlt] at hi ⊢
    cases hi
    rfl

set_option maxHeartbeats 2000000 in
set_option maxRecDepth 100000 in
theorem ends_walk (w : World) (a : Option Addr) (len cap : Nat) (L : List LOp) (hl : L.length = len) (hs : ScriptAt w a L) (all : Bool) :
    Calls Try.prog 4 #[.slice a len cap, .bool all] w fun e w' => e = .returned (.bool true) ∧ Below w.heap.size w w' := by
  have HS := Lib.hid hs
  have HL := Lib.hid hl
  have HAw := Lib.hid (fun W => dawake_any W)
  clear hs hl
  go_enter Try.func4, Try.ntmps4
  go_wp2_with fail
  refine (HAw.out w).mono ?_
  rintro e w1 ⟨rfl, hb1⟩
  have HB1 := Lib.hid hb1
  have HFew := Lib.hid (few_any (cap := cap) (HS.out.below hb1) HL.out)
  clear hb1
  go_wp2_with fail
  refine HFew.out.mono ?_
  rintro e w' ⟨⟨t, rfl, hfew⟩, rfl⟩
  cases t with
  | false =>
    clear hfew
    go_wp2_with fail
    refine (HAw.out w1).mono ?_
    rintro e w2 ⟨rfl, hb2⟩
    have HB2 := Lib.hid (HB1.out.trans (hb2.mono HB1.out.size))
    clear hb2
    go_wp2
    go_ret
    exact ⟨rfl, HB2.out⟩
  | true =>
    have HF := Lib.hid (hfew rfl)
    clear hfew
    go_wp2_with fail
    refine (new_any w1 1073741824).mono ?_
    rintro e w2 ⟨d, rfl, hd, hb2⟩
    have HD := Lib.hid hd
    have HB2 := Lib.hid hb2
    clear hd hb2
    go_wp2_with fail
    refine (newr_any w2 1073741824).mono ?_
    rintro e w3 ⟨r, rfl, hr, hb3⟩
    have HTwo := Lib.hid (two_new HB1.out HD.out HB2.out hr hb3)
    have HStart : Hid (EndsAt w w3 d r 0 (St.new 1073741824) (.slice none 0 0)) := Lib.hid ⟨⟨_, _, HTwo.out, fun k hk => by simp [Value.ownBlock] at hk⟩, ⟨rfl, rfl⟩, World.ownsRow_nil _ _ _ _⟩
    clear hr hb3 HD HB2 HTwo
    go_wp2
    go_loopw [7, 8] (fun s7 s8 wr => ∃ (i : Nat) (s : St), i ≤ len ∧ i ≤ 60 ∧ s8 = .int .i64 i ∧ Hid (EndsAt w wr d r i s s7)) (fun _ s8 _ => 60 - (intOf s8).toNat)
    case atStart => exact ⟨0, St.new 1073741824, Nat.zero_le _, Nat.zero_le _, rfl, HStart⟩
    case round =>
      obtain ⟨i, s, hi, hi60, rfl, HE⟩ := hrel
      have i0 : (0 : Int) ≤ (i : Int) := Int.natCast_nonneg _
      by_cases hlt : i < len
      · have i1 : (i : Int) < (len : Int) := by omega
        have i2 : decide (i < len) = true := by simpa using hlt
        by_cases h60 : i < 60
        · have i3 : decide ((i : Int) < 60) = true := by simp; omega
          obtain ⟨T, S, hT, hv⟩ := HE.out.ex
          obtain ⟨o, ho⟩ : ∃ o, L[i]? = some o := ⟨L[i]'(by have := HL.out; omega), List.getElem?_eq_getElem _⟩
          obtain ⟨hok, ad, A, C, KA, KC, rfl, c0, c1, c2, c3, c4, c5, hby, hbl⟩ := HS.out i o ho
          have hidx : ∀ W, (Instr.indexAt 22 (.slice (some ad) len cap) (.int .i64 (i : Int))).run Try.prog W = .ok (.pointer (some (ad.add (i * 6)))) W := fun W => script_index W ad len cap i hlt
          obtain ⟨p, hp⟩ : ∃ p, p = ad.add (i * 6) := ⟨_, rfl⟩
          rw [← hp] at hidx c0 c1 c2 c3 c4 c5
          have hdo : ∀ X, Below wr.heap.size wr X → _ := fun X hX => ldo_any (hT.below hX) (by omega) hok (HF.out i o ho h60) hby hbl
          obtain ⟨N, hN⟩ : ∃ N, nm o.name = .string N := ⟨_, rfl⟩
          obtain ⟨M, hM⟩ : ∃ M, nm o.q = .string M := ⟨_, rfl⟩
          obtain ⟨kk, hkk⟩ : ∃ kk, kk = kindA o.kind := ⟨_, rfl⟩
          obtain ⟨s1, hs1⟩ : ∃ s1, s1 = stepA kk o s := ⟨_, rfl⟩
          obtain ⟨kd, hkd⟩ : ∃ kd, kd = o.kind := ⟨_, rfl⟩
          obtain ⟨on, hon⟩ : ∃ on, on = o.n := ⟨_, rfl⟩
          obtain ⟨bl, hbl2⟩ : ∃ bl, bl = o.b.length := ⟨_, rfl⟩
          obtain ⟨kl, hkl⟩ : ∃ kl, kl = o.keep.length := ⟨_, rfl⟩
          rw [hN] at c1
          rw [hM] at c2
          simp only [← hkk, ← hs1] at hdo
          simp only [hN, hM, ← hkd, ← hon, ← hbl2, ← hkl] at hdo
          rw [← hkd] at c0
          rw [← hon] at c3
          rw [← hbl2] at c4
          rw [← hkl] at c5
          have HDo := Lib.hid hdo
          have HStep : Hid (kk ≤ 5 → Calm s1 ∧ (s1.sure = s.sure ∨ s1.ops = [])) := Lib.hid fun h => by rw [hs1]; exact calm_step h HE.out.calm
          have hc : ∀ {q : Addr} {u : Value}, w.cell? q = some u → wr.cell? q = some u := fun {q u} hq => by rw [hT.bel.cell (World.block_lt_of_cell? w _ hq)]; exact hq
          have c0' := hc c0
          have c1' := hc c1
          have c2' := hc c2
          have c3' := hc c3
          have c4' := hc c4
          have c5' := hc c5
          have hkb : -9223372036854775808 ≤ kd ∧ kd ≤ 9223372036854775807 := by rw [hkd]; exact hok.kind
          obtain ⟨k1, hr1⟩ : ∃ k1, kd.tmod 10 = k1 := ⟨_, rfl⟩
          have hk1 : -9 ≤ k1 ∧ k1 ≤ 9 := by rw [← hr1]; exact tmod_ten kd
          have hk2 := tmod_kind k1 hk1
          have hr2 : (k1 + 10).tmod 10 = (kk : Int) := by
            rw [hkk]
            unfold kindA
            rw [← hkd, hr1]
            omega
          have HT := Lib.hid hT
          have HV := Lib.hid hv
          clear hok hby hbl hp hdo hN hM hs1 hkd hon hbl2 hkl hT ho c0 c1 c2 c3 c4 c5 hc hkk hk2 hv
          have hba : Below wr.heap.size wr (wr.alloc (.cells #[.int .i64 kd, .string N, .string M, .int .i64 on, .slice A bl C, .slice KA kl KC] 33)) := (Below.refl _ _).alloc (Nat.le_refl _) _
          have HBa := Lib.hid hba
          clear hba
          by_cases h5 : 5 < kk
          · have j1 : decide (5 < (kk : Int)) = true := by simp; omega
            have j2 : decide (5 < kk) = true := by simp; omega
            go_wp2
            go_roundw
            case rel => exact ⟨i + 1, s, by omega, by omega, by go_num, Lib.hid (HE.out.skip HBa.out (by omega))⟩
            case measure => simp [intOf]; omega
          · have j1 : decide (5 < (kk : Int)) = false := by simp; omega
            have j2 : decide (5 < kk) = false := by simp; omega
            have HSt := Lib.hid (HStep.out (by omega))
            go_wp2_with fail
            refine (HDo.out _ HBa.out).mono ?_
            rintro e w4 ⟨rfl, hdid⟩
            have HDid := Lib.hid hdid
            obtain ⟨T4, S4, hT4, -, -⟩ := hdid.ex
            have hwt := waitingT hT4.disk
            obtain ⟨q, hq⟩ : ∃ q, q = s1.ops.length := ⟨_, rfl⟩
            rw [← hq] at hwt
            have HWt := Lib.hid hwt
            have HQ := Lib.hid hq
            have HT4 := Lib.hid hT4
            clear hdid hT4 hwt hq c0' c1' c2' c3' c4' c5' hr1 hr2 hidx
            go_wp2_with fail
            refine HWt.out.mono ?_
            rintro e w5 ⟨rfl, rfl⟩
            by_cases hq0 : q = 0
            · subst hq0
              have hops : s1.ops = [] := List.eq_nil_of_length_eq_zero HQ.out.symm
              have HTold := Lib.hid (told_any HT4.out.disk HSt.out.1.1)
              have HOps := Lib.hid hops
              clear hops
              go_wp2_with fail
              refine HTold.out.mono ?_
              rintro e w6 ⟨v, rfl, hn6, hb6⟩
              have HNew := Lib.hid (ends_new HT4.out HSt.out.1 HOps.out hb6 hn6)
              obtain ⟨va, vc, hv6⟩ := nms_slice hn6
              obtain ⟨vn, hvn⟩ : ∃ vn, vn = (toldL s1.now).length := ⟨_, rfl⟩
              rw [← hvn] at hv6
              subst hv6
              clear hn6 hb6 hvn
              go_wp2
              go_roundw
              case rel => exact ⟨i + 1, s1, by omega, by omega, by go_num, HNew⟩
              case measure => simp [intOf]; omega
            · have hqb : ((q : Int) == 0) = false := by simp; omega
              have hqc : (q == 0) = false := by simpa using hq0
              have HNew : Hid (EndsAt w w4 d r (i + 1) s1 u7) := Lib.hid (by
                rcases HSt.out.2 with h | h
                · exact ends_did HV.out (HE.out.sure.below HBa.out) HSt.out.1 h HDid.out
                · exact absurd (by rw [HQ.out, h]; rfl) hq0)
              go_wp2
              go_roundw
              case rel => exact ⟨i + 1, s1, by omega, by omega, by go_num, HNew⟩
              case measure => simp [intOf]; omega
        · have i3 : decide ((i : Int) < 60) = false := by simp; omega
          have i4 : True := trivial
          obtain ⟨wo, rfl⟩ : ∃ wo : World, wo = wr := ⟨_, rfl⟩
          obtain ⟨T, S, hT, hv⟩ := HE.out.ex
          have HTold := Lib.hid (told_any hT.disk HE.out.calm.1)
          have HT := Lib.hid hT
          have HV := Lib.hid hv
          clear hT hv
          go_wp2_with fail
          refine HTold.out.mono ?_
          rintro e w5 ⟨v10, rfl, hn5, hb5⟩
          obtain ⟨na, nc, hv10⟩ := nms_slice hn5
          obtain ⟨nn, hnn⟩ : ∃ nn, nn = (toldL s.now).length := ⟨_, rfl⟩
          rw [← hnn] at hv10
          subst hv10
          obtain ⟨sa, sc, hu7⟩ := nms_slice HE.out.sure
          obtain ⟨sn, hsn⟩ : ∃ sn, sn = (toldL s.sure).length := ⟨_, rfl⟩
          rw [← hsn] at hu7
          subst hu7
          have HN5 := Lib.hid hn5
          have HT5 := Lib.hid (HT.out.below hb5)
          have HS5 := Lib.hid (HE.out.sure.below hb5)
          have HNT : Hid (∀ k, (Value.slice na nn nc).ownBlock = some k → ¬ T k) := Lib.hid fun k hk ht => by
            have h1 := (World.ownsRow.lt hn5 k hk).1
            have h2 := HT.out.disk.lt k ht
            omega
          obtain ⟨q, hq⟩ : ∃ q, q = s.ops.length := ⟨_, rfl⟩
          have hsm := ops_small HT5.out.disk
          have hq2 : q ≤ 2000 := by omega
          have HSm := Lib.hid hsm
          have HQ := Lib.hid hq
          have HWt : Hid (∀ X, Below w5.heap.size w5 X → Calls Try.prog 15 #[dp d] X fun e w' => e = .returned (.int .i64 (q : Int)) ∧ X = w') := Lib.hid fun X hX => by
            rw [hq]
            exact waitingT (HT5.out.disk.below hX)
          have HCalm := Lib.hid HE.out.calm
          clear hn5 hb5 hnn hsn hsm hq HTold hlt h60 i1 i2 i3 HE
          go_wp2
          go_loopw [11, 12] (fun s11 s12 wr => ∃ j : Nat, j ≤ q ∧ s12 = .int .i64 j ∧ Hid (wr.ownsRow w5.heap.size 4 1 s11 j (List.replicate j (.bool all))) ∧ Hid (Below w5.heap.size w5 wr)) (fun _ s12 _ => q - (intOf s12).toNat)
          case atStart => exact ⟨0, Nat.zero_le _, rfl, Lib.hid (World.ownsRow_nil _ _ _ _), Lib.hid (Below.refl _ _)⟩
          case round =>
            obtain ⟨j, hj, rfl, HRow, HB⟩ := hrel
            have j0 : (0 : Int) ≤ (j : Int) := Int.natCast_nonneg _
            by_cases hjq : j < q
            · have j1 : (j : Int) < (q : Int) := by omega
              have j2 : decide (j < q) = true := by simpa using hjq
              have hba : Below wr.heap.size wr (wr.alloc (.cells #[.bool all] 4)) := (Below.refl _ _).alloc (Nat.le_refl _) _
              have A1 := Lib.hid (add_bool (ownRow_same HRow.out fun k hk => hba.block k (World.ownsRow.lt HRow.out k hk).2) (Nat.le_trans HB.out.size hba.size) (by omega) (Blk.new wr 4 #[.bool all]))
              have HBa := Lib.hid (HB.out.trans (hba.mono HB.out.size))
              have hnew : ∀ k, u11.ownBlock = some k → w5.heap.size ≤ k := fun k hk => (World.ownsRow.lt HRow.out k hk).1
              have HNw := Lib.hid hnew
              clear hba hnew
              go_wp2_with fail
              refine (HWt.out wr HB.out).mono ?_
              rintro e w6 ⟨rfl, rfl⟩
              go_wp2_with (at_builtin; refine wpList_append_by rfl _ _ 31 rfl _ _ rfl rfl _ A1.out ?_; rintro v' w6 ⟨q1, q2⟩; (have Q1 := Lib.hid q1); (have Q2 := Lib.hid q2); clear q1 q2)
              go_wp2
              go_roundw
              case rel => exact ⟨j + 1, by omega, by go_num, Q1, Lib.hid (HBa.out.grown Q2.out HBa.out.size HNw.out)⟩
              case measure => simp [intOf]; omega
            · obtain rfl : j = q := by omega
              have j1 : decide ((j : Int) < (j : Int)) = false := by simp
              obtain ⟨hbls, ka, kc, hu11⟩ := bls_row HRow.out
              subst hu11
              have hcr := crash_any (torn := 1073741824) (HT5.out.disk.below HB.out) hbls (by rw [List.length_replicate]) (by omega)
              have HCr := Lib.hid hcr
              have HOk := Lib.hid (ok_of HT5.out.disk)
              clear hbls hcr hjq
              go_wp2_with fail
              refine (HWt.out wr HB.out).mono ?_
              rintro e w6 ⟨rfl, rfl⟩
              clear HWt
              cases all with
              | true =>
                go_wp2_with fail
                refine HCr.out.mono ?_
                rintro e w7 ⟨rfl, hnx⟩
                have htold := told_any hnx.disk rfl
                have hnow : (s.crash (List.replicate j true) 1073741824).now = s.now := by rw [HQ.out]; exact crash_keep HOk.out
                rw [hnow] at htold
                have HTold := Lib.hid htold
                have HN7 := Lib.hid ((HN5.out.below HB.out).only hnx.only HNT.out)
                have HB7 := Lib.hid (only_below ((HT5.out.below HB.out).bel) HT5.out.newT hnx.only)
                clear hnx htold hnow HCr
                go_wp2_with fail
                refine HTold.out.mono ?_
                rintro e w8 ⟨v8, rfl, hn8, hb8⟩
                have hal := alike_any hn8 (HN7.out.below hb8) (by rw [toldL_length]; have := HSm.out; omega)
                have HAl := Lib.hid hal
                have HB8 := Lib.hid (HB7.out.trans (hb8.mono HB7.out.size))
                clear hn8 hb8 hal HTold
                go_wp2_with fail
                refine HAl.out.mono ?_
                rintro e w9 ⟨rfl, hb9⟩
                have HB9 := Lib.hid (HB8.out.trans (hb9.mono HB8.out.size))
                clear hb9
                go_wp2
                go_ret
                exact ⟨rfl, HB9.out⟩
              | false =>
                go_wp2_with fail
                refine HCr.out.mono ?_
                rintro e w7 ⟨rfl, hnx⟩
                have htold := told_any hnx.disk rfl
                have hnow : (s.crash (List.replicate j false) 1073741824).now = s.sure := by rw [HQ.out]; exact crash_lose
                rw [hnow] at htold
                have HTold := Lib.hid htold
                have HN7 := Lib.hid ((HS5.out.below HB.out).only hnx.only fun k hk => (HV.out k hk).1)
                have HB7 := Lib.hid (only_below ((HT5.out.below HB.out).bel) HT5.out.newT hnx.only)
                have HD7 := Lib.hid hnx.disk
                clear hnx htold hnow HCr
                go_wp2_with fail
                refine HTold.out.mono ?_
                rintro e w8 ⟨v8, rfl, hn8, hb8⟩
                have hal := alike_any hn8 (HN7.out.below hb8) (by rw [toldL_length]; have := HSm.out; omega)
                have HAl := Lib.hid hal
                have HD8 := Lib.hid (HD7.out.below hb8)
                have HB8 := Lib.hid (HB7.out.trans (hb8.mono HB7.out.size))
                clear hn8 hb8 hal HTold
                go_wp2_with fail
                refine HAl.out.mono ?_
                rintro e w9 ⟨rfl, hb9⟩
                have hw9 := waitingT (HD8.out.below hb9)
                have HW9 : Hid (Calls Try.prog 15 #[dp d] w9 fun e w' => e = .returned (.int .i64 0) ∧ w9 = w') := Lib.hid hw9
                have HB9 := Lib.hid (HB8.out.trans (hb9.mono HB8.out.size))
                clear hb9 hw9
                go_wp2_with fail
                refine HW9.out.mono ?_
                rintro e w10 ⟨rfl, rfl⟩
                go_wp2
                go_ret
                exact ⟨rfl, HB9.out⟩
      · have i1 : decide ((i : Int) < (len : Int)) = false := by simp; omega
        have i2 : decide (i < len) = false := by simpa using hlt
        have i3 : True := trivial
        have h60 : True := trivial
        obtain ⟨wo, rfl⟩ : ∃ wo : World, wo = wr := ⟨_, rfl⟩
        obtain ⟨T, S, hT, hv⟩ := HE.out.ex
        have HTold := Lib.hid (told_any hT.disk HE.out.calm.1)
        have HT := Lib.hid hT
        have HV := Lib.hid hv
        clear hT hv
        go_wp2_with fail
        refine HTold.out.mono ?_
        rintro e w5 ⟨v10, rfl, hn5, hb5⟩
        obtain ⟨na, nc, hv10⟩ := nms_slice hn5
        obtain ⟨nn, hnn⟩ : ∃ nn, nn = (toldL s.now).length := ⟨_, rfl⟩
        rw [← hnn] at hv10
        subst hv10
        obtain ⟨sa, sc, hu7⟩ := nms_slice HE.out.sure
        obtain ⟨sn, hsn⟩ : ∃ sn, sn = (toldL s.sure).length := ⟨_, rfl⟩
        rw [← hsn] at hu7
        subst hu7
        have HN5 := Lib.hid hn5
        have HT5 := Lib.hid (HT.out.below hb5)
        have HS5 := Lib.hid (HE.out.sure.below hb5)
        have HNT : Hid (∀ k, (Value.slice na nn nc).ownBlock = some k → ¬ T k) := Lib.hid fun k hk ht => by
          have h1 := (World.ownsRow.lt hn5 k hk).1
          have h2 := HT.out.disk.lt k ht
          omega
        obtain ⟨q, hq⟩ : ∃ q, q = s.ops.length := ⟨_, rfl⟩
        have hsm := ops_small HT5.out.disk
        have hq2 : q ≤ 2000 := by omega
        have HSm := Lib.hid hsm
        have HQ := Lib.hid hq
        have HWt : Hid (∀ X, Below w5.heap.size w5 X → Calls Try.prog 15 #[dp d] X fun e w' => e = .returned (.int .i64 (q : Int)) ∧ X = w') := Lib.hid fun X hX => by
          rw [hq]
          exact waitingT (HT5.out.disk.below hX)
        have HCalm := Lib.hid HE.out.calm
        clear hn5 hb5 hnn hsn hsm hq HTold hlt h60 i1 i2 i3 HE
        go_wp2
        go_loopw [11, 12] (fun s11 s12 wr => ∃ j : Nat, j ≤ q ∧ s12 = .int .i64 j ∧ Hid (wr.ownsRow w5.heap.size 4 1 s11 j (List.replicate j (.bool all))) ∧ Hid (Below w5.heap.size w5 wr)) (fun _ s12 _ => q - (intOf s12).toNat)
        case atStart => exact ⟨0, Nat.zero_le _, rfl, Lib.hid (World.ownsRow_nil _ _ _ _), Lib.hid (Below.refl _ _)⟩
        case round =>
          obtain ⟨j, hj, rfl, HRow, HB⟩ := hrel
          have j0 : (0 : Int) ≤ (j : Int) := Int.natCast_nonneg _
          by_cases hjq : j < q
          · have j1 : (j : Int) < (q : Int) := by omega
            have j2 : decide (j < q) = true := by simpa using hjq
            have hba : Below wr.heap.size wr (wr.alloc (.cells #[.bool all] 4)) := (Below.refl _ _).alloc (Nat.le_refl _) _
            have A1 := Lib.hid (add_bool (ownRow_same HRow.out fun k hk => hba.block k (World.ownsRow.lt HRow.out k hk).2) (Nat.le_trans HB.out.size hba.size) (by omega) (Blk.new wr 4 #[.bool all]))
            have HBa := Lib.hid (HB.out.trans (hba.mono HB.out.size))
            have hnew : ∀ k, u11.ownBlock = some k → w5.heap.size ≤ k := fun k hk => (World.ownsRow.lt HRow.out k hk).1
            have HNw := Lib.hid hnew
            clear hba hnew
            go_wp2_with fail
            refine (HWt.out wr HB.out).mono ?_
            rintro e w6 ⟨rfl, rfl⟩
            go_wp2_with (at_builtin; refine wpList_append_by rfl _ _ 31 rfl _ _ rfl rfl _ A1.out ?_; rintro v' w6 ⟨q1, q2⟩; (have Q1 := Lib.hid q1); (have Q2 := Lib.hid q2); clear q1 q2)
            go_wp2
            go_roundw
            case rel => exact ⟨j + 1, by omega, by go_num, Q1, Lib.hid (HBa.out.grown Q2.out HBa.out.size HNw.out)⟩
            case measure => simp [intOf]; omega
          · obtain rfl : j = q := by omega
            have j1 : decide ((j : Int) < (j : Int)) = false := by simp
            obtain ⟨hbls, ka, kc, hu11⟩ := bls_row HRow.out
            subst hu11
            have hcr := crash_any (torn := 1073741824) (HT5.out.disk.below HB.out) hbls (by rw [List.length_replicate]) (by omega)
            have HCr := Lib.hid hcr
            have HOk := Lib.hid (ok_of HT5.out.disk)
            clear hbls hcr hjq
            go_wp2_with fail
            refine (HWt.out wr HB.out).mono ?_
            rintro e w6 ⟨rfl, rfl⟩
            clear HWt
            cases all with
            | true =>
              go_wp2_with fail
              refine HCr.out.mono ?_
              rintro e w7 ⟨rfl, hnx⟩
              have htold := told_any hnx.disk rfl
              have hnow : (s.crash (List.replicate j true) 1073741824).now = s.now := by rw [HQ.out]; exact crash_keep HOk.out
              rw [hnow] at htold
              have HTold := Lib.hid htold
              have HN7 := Lib.hid ((HN5.out.below HB.out).only hnx.only HNT.out)
              have HB7 := Lib.hid (only_below ((HT5.out.below HB.out).bel) HT5.out.newT hnx.only)
              clear hnx htold hnow HCr
              go_wp2_with fail
              refine HTold.out.mono ?_
              rintro e w8 ⟨v8, rfl, hn8, hb8⟩
              have hal := alike_any hn8 (HN7.out.below hb8) (by rw [toldL_length]; have := HSm.out; omega)
              have HAl := Lib.hid hal
              have HB8 := Lib.hid (HB7.out.trans (hb8.mono HB7.out.size))
              clear hn8 hb8 hal HTold
              go_wp2_with fail
              refine HAl.out.mono ?_
              rintro e w9 ⟨rfl, hb9⟩
              have HB9 := Lib.hid (HB8.out.trans (hb9.mono HB8.out.size))
              clear hb9
              go_wp2
              go_ret
              exact ⟨rfl, HB9.out⟩
            | false =>
              go_wp2_with fail
              refine HCr.out.mono ?_
              rintro e w7 ⟨rfl, hnx⟩
              have htold := told_any hnx.disk rfl
              have hnow : (s.crash (List.replicate j false) 1073741824).now = s.sure := by rw [HQ.out]; exact crash_lose
              rw [hnow] at htold
              have HTold := Lib.hid htold
              have HN7 := Lib.hid ((HS5.out.below HB.out).only hnx.only fun k hk => (HV.out k hk).1)
              have HB7 := Lib.hid (only_below ((HT5.out.below HB.out).bel) HT5.out.newT hnx.only)
              have HD7 := Lib.hid hnx.disk
              clear hnx htold hnow HCr
              go_wp2_with fail
              refine HTold.out.mono ?_
              rintro e w8 ⟨v8, rfl, hn8, hb8⟩
              have hal := alike_any hn8 (HN7.out.below hb8) (by rw [toldL_length]; have := HSm.out; omega)
              have HAl := Lib.hid hal
              have HD8 := Lib.hid (HD7.out.below hb8)
              have HB8 := Lib.hid (HB7.out.trans (hb8.mono HB7.out.size))
              clear hn8 hb8 hal HTold
              go_wp2_with fail
              refine HAl.out.mono ?_
              rintro e w9 ⟨rfl, hb9⟩
              have hw9 := waitingT (HD8.out.below hb9)
              have HW9 : Hid (Calls Try.prog 15 #[dp d] w9 fun e w' => e = .returned (.int .i64 0) ∧ w9 = w') := Lib.hid hw9
              have HB9 := Lib.hid (HB8.out.trans (hb9.mono HB8.out.size))
              clear hb9 hw9
              go_wp2_with fail
              refine HW9.out.mono ?_
              rintro e w10 ⟨rfl, rfl⟩
              go_wp2
              go_ret
              exact ⟨rfl, HB9.out⟩

theorem ends_all (w : World) (a : Option Addr) (len cap : Nat) (L : List LOp) (hl : L.length = len) (hs : ScriptAt w a L) (_ : len ≤ 9223372036854775807 ∧ True) (all : Bool) :
    Calls Try.prog 4 #[.slice a len cap, .bool all] w fun e w' => e = .returned (.bool true) ∧ Below w.heap.size w w' := ends_walk w a len cap L hl hs all
end Go.Proofs.Ytabddeoeihlnnaa
