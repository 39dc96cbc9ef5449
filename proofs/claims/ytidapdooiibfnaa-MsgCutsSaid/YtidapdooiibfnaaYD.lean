/- Joined: MsgGetKit2, MsgRefGet3. -/
import Derived.Test.YtidapdooiibfnaaYC
/- Layer 18's reference: entries that are read one behind the other. -/
namespace Go.Proofs.Ytidapdooiibfnaa
set_option maxRecDepth 20000
open Go.RowKit BinMath CmdMath Reg
open MsgMath (Mg St codeS thru tag gRange gYes getM gMsg)

theorem GAt.far {w W W' : World} {R Q T Z : Nat} {a : Option Addr} {cap : Nat} {l : List UInt8} {st : St} {cs : Array Value} {S : Nat → Prop} (h : GAt w R Q T Z a cap l st cs W) (ho : OnlyS S W W') (hS : ∀ k, k ≤ Z → ¬ S k) : GAt w R Q T Z a cap l st cs W' := by
  have h1 := h.rl; have h2 := h.rq; have h3 := h.tz; have h4 := h.tk.qt; have h5 := h.tk.gq
  exact ⟨h.tk.only ho (fun k hk => hS k (by omega)) (hS _ (by omega)) (hS _ (by omega)), h.br.onlyS ho (hS _ (by omega)), h.bz.onlyS ho (hS _ (Nat.le_refl _)), h.bl.trans (ho.below (fun k hk => hS k (by omega)) h.bl.size), h1, h2, h3⟩
/-- The reader has read on. -/
theorem GAt.read {w W W' : World} {R Q T Z : Nat} {a : Option Addr} {cap : Nat} {l r q : List UInt8} {cs : Array Value} (h : GAt w R Q T Z a cap l (.ok r) cs W) (ho : Only Q W W') (hr : RAt W' Q w.heap.size a cap l q) : GAt w R Q T Z a cap l (.ok q) cs W' := by
  have h4 := h.tk.qt
  exact h.call ⟨h.tk.tb.onlyR ho (by omega), (fun r e => by cases e; exact hr), (fun c e => by cases e), Nat.lt_of_lt_of_le h.tk.ql ho.size, h.tk.gq, h4⟩ (OnlyS.of_only ho (.inr rfl))
/-- The reader has failed, and the taker has its fault. -/
theorem GAt.fail {w W W1 W2 : World} {R Q T Z c : Nat} {a : Option Addr} {cap : Nat} {l r : List UInt8} {cs : Array Value} (h : GAt w R Q T Z a cap l (.ok r) cs W) (ho : Only Q W W1) (hc : 2 ≤ c ∧ c ≤ 5)
    (hb : Blk W2 T 67 #[.pointer (some ⟨Q, 0, none⟩), .int .i64 (c : Int)]) (ho2 : OnlyS (fun k => k = T) W1 W2) : GAt w R Q T Z a cap l (.error c) cs W2 := by
  have h4 := h.tk.qt
  have ho3 : OnlyS (fun k => k = T ∨ k = Q) W W2 := (OnlyS.of_only ho (.inr rfl)).trans (ho2.mono fun _ _ e => .inl e)
  exact h.call ⟨hb, (fun r e => by cases e), (fun d e => by cases e; exact hc), Nat.lt_of_lt_of_le h.tk.ql ho3.size, h.tk.gq, h4⟩ ho3

theorem ERow.only {w w' : World} {B : Nat} {v : Value} {us : List EE} {S : Nat → Prop} (h : ERow w B v us) (ho : OnlyS S w w') (hS : ∀ k, B ≤ k → ¬ S k) : ERow w' B v us := h.to fun k hk hl => ho.block k hl (hS k hk)
theorem EMine.only {w w' : World} {B : Nat} {us : List EE} {S : Nat → Prop} (h : EMine w B us) (ho : OnlyS S w w') (hS : ∀ k, B ≤ k → ¬ S k) : EMine w' B us := h.to fun k hk hl => ho.block k hl (hS k hk)
theorem ERow.below {w w' : World} {B : Nat} {v : Value} {us : List EE} (h : ERow w B v us) (hb : Below w.heap.size w w') : ERow w' B v us := h.to fun k _ hl => hb.block k hl
theorem EMine.below {w w' : World} {B : Nat} {us : List EE} (h : EMine w B us) (hb : Below w.heap.size w w') : EMine w' B us := h.to fun k _ hl => hb.block k hl

theorem rows_apart {w : World} {B1 B2 e1 e2 s1 s2 n1 n2 : Nat} {v1 v2 : Value} {xs1 xs2 : List Value} (h1 : w.ownsRow B1 e1 s1 v1 n1 xs1) (h2 : w.ownsRow B2 e2 s2 v2 n2 xs2) (hne : e1 ≠ e2) (k : Nat) (hk : v1.ownBlock = some k) : v2.ownBlock ≠ some k := by
  intro e
  rcases h2.2 with ⟨rfl, _⟩ | ⟨g, cap, cur, rfl, hB, hg, _⟩
  · simp [Value.ownBlock] at e
  · have e2 : g = k := by simpa [Value.ownBlock] using e
    subst e2
    exact ownsRow_apart h1 (show Blk w g e2 cur from hg) hne hk

/-- An entry's slices stay where the list that holds it grows. -/
theorem EMine.grown {w w' : World} {B B' : Nat} {v : Value} {us vs : List EE} (h : EMine w B us) (hr : ERow w B' v vs) (hg : w.grownBy w' v.ownBlock) : EMine w' B us := fun u hu => by
  have h1 := h u hu
  exact ⟨h1.ok, row_to h1.d fun k e => hg.block k (World.ownsRow.lt h1.d k e).2 (fun e2 => rows_apart h1.d hr (by decide) k e e2.symm), h1.m.to fun k e => hg.block k (World.ownsRow.lt h1.m k e).2 (fun e2 => rows_apart h1.m hr (by decide) k e e2.symm), h1.dl, h1.ml⟩
theorem EMine.snoc {w : World} {B : Nat} {us : List EE} {u : EE} (h : EMine w B us) (hu : Mine w B u.e u.a u.ca u.b u.cb) : EMine w B (us ++ [u]) := fun x hx => by
  rcases List.mem_append.1 hx with hx | hx
  · exact h x hx
  · rw [List.mem_singleton.1 hx]; exact hu

theorem wpList_build_ent1 {w : World} {ops : Array Oper} {rest : List Oper} {o : Oper} {a : Act} {Q : Exit → Act → World → Prop} (hgd : o.guard = none) (s : Operand) (ho : o.op = .buildSlice 23 1 #[(0, s)])
    (cs : Array Value) (hx : a.eval s = .agg cs) (hc : cs.size = 6)
    (h : ∀ W', Blk W' w.heap.size 42 cs → Below w.heap.size w W' → wpList Try.prog ops Q rest (a.put o.dst (.slice (some ⟨w.heap.size, 0, none⟩) 1 1)) W') : wpList Try.prog ops Q (o :: rest) a w := by
  have hr : (Instr.buildSlice 23 1 #[(0, .agg cs)]).run Try.prog w = .ok (.slice (some ⟨w.heap.size, 0, none⟩) 1 1) (w.alloc (.cells cs 42)) := by
    obtain ⟨i, hi, hz0, hz1, hz2⟩ := info_parts info_ent6
    refine run_buildSlice w _ _ 1 _ cs i _ Try.underlying23 hi hz0 (by rw [hz1]; decide) (by rw [hz1]; decide) ?_
    rw [hz1]
    have := Go.Great.fill_whole (s := 6) (by decide) [.agg cs] ((Array.range (1 * 6)).map ((Value.agg zeroC).cells[· % (Value.agg zeroC).cells.size]!)) (by simp [Value.cells, hc]) (by simp)
    simpa [Value.cells] using this
  refine wpList_plain hgd fun K hK => ?_
  unfold Oper.wp execOp
  simp only [ho, Sem.run_bind, List.map_toArray, List.map_cons, List.map_nil, hx, hr, Result.andThen_ok]
  exact hK _ _ (h _ (Blk.new w _ _) ((Below.refl _ _).alloc (Nat.le_refl _) _))

theorem row_cap {w : World} {B : Nat} {v : Value} {l : List UInt8} (h : Row w B v l) : ∃ a c, v = .slice a l.length c ∧ l.length ≤ c := by
  rcases h.2 with ⟨rfl, h1⟩ | ⟨g, cap, cur, rfl, hB, hg, hn, -⟩
  · exact ⟨none, 0, by rw [h1], by omega⟩
  · exact ⟨_, _, rfl, hn⟩
end Go.Proofs.Ytidapdooiibfnaa

/- Layer 18's reference: Get, a message of the kind 3. -/
namespace Go.Proofs.Ytidapdooiibfnaa
set_option maxRecDepth 20000
open Go.RowKit BinMath CmdMath Reg
open MsgMath (Mg St codeS thru tag gRange gYes getM gMsg gEnts)

theorem getR_code {x : List UInt8} (h : (getR x).2 ≠ 0) : 2 ≤ (getR x).2 ∧ (getR x).2 ≤ 5 := by
  unfold getR at h ⊢
  cases hg : gEnt x with
  | error c => have := gEnt_err hg; simp only; omega
  | ok p =>
    obtain ⟨f, r⟩ := p
    rw [hg] at h
    simp only at h ⊢
    split at h
    · simp at h
    · rename_i hr
      rw [if_neg hr]
      simp
theorem ent_code {x : List UInt8} {c : Nat} (h : (getR x).2 ≠ 0) (hc : (getR x).2 = c) : 2 ≤ c ∧ c ≤ 5 := by
  subst hc
  exact getR_code h

set_option maxHeartbeats 8000000 in
set_option maxRecDepth 100000 in
theorem msgget_3 (v : Option Addr) (len c : Nat) (l : List UInt8) (w : World) (hx : Bys w (.slice v len c) l) (hl : l.length ≤ 140737488351232) (hlc : len ≤ c) (q : List UInt8) (hg : gByte l = .ok (3, q)) :
    Calls Try.prog 16 #[.slice v len c] w (MGetEnd l w) := by
  have b1 : Below w.heap.size w (((w.alloc (.cells zeroM 27)).alloc (.cells #[.slice v len c, .int .i64 0, .int .i64 0] 65)).alloc (.cells #[.pointer (some ⟨w.heap.size + 1, 0, none⟩), .int .i64 0] 67)) := (((Below.refl _ _).alloc (Nat.le_refl _) _).alloc (by simp) _).alloc (by simp only [World.size_alloc]; omega) _
  have kb := (Blk.newAt (w.alloc (.cells zeroM 27)) 65 _ #[.slice v len c, .int .i64 0, .int .i64 0] (w.heap.size + 1) (by simp) rfl).alloc (.cells #[.pointer (some ⟨w.heap.size + 1, 0, none⟩), .int .i64 0] 67)
  have hA := ref_new (Q := w.heap.size + 1) hx hl hlc (by omega) b1 kb
  have HStart := Lib.hid (show TkAt (((w.alloc (.cells zeroM 27)).alloc (.cells #[.slice v len c, .int .i64 0, .int .i64 0] 65)).alloc (.cells #[.pointer (some ⟨w.heap.size + 1, 0, none⟩), .int .i64 0] 67)) (w.heap.size + 1 + 1) (w.heap.size + 1) w.heap.size v c l (.ok l) ∧ Blk (((w.alloc (.cells zeroM 27)).alloc (.cells #[.slice v len c, .int .i64 0, .int .i64 0] 65)).alloc (.cells #[.pointer (some ⟨w.heap.size + 1, 0, none⟩), .int .i64 0] 67)) w.heap.size 27 zeroM ∧ Below w.heap.size w (((w.alloc (.cells zeroM 27)).alloc (.cells #[.slice v len c, .int .i64 0, .int .i64 0] 65)).alloc (.cells #[.pointer (some ⟨w.heap.size + 1, 0, none⟩), .int .i64 0] 67)) from
    ⟨⟨Blk.newAt _ _ _ _ _ (by simp) rfl, (fun r hr => by cases hr; exact hA), (fun c hc => by cases hc), by simp only [World.size_alloc]; omega, by omega, by omega⟩, ((Blk.new w _ _).alloc _).alloc _, b1⟩)
  clear hx hl hlc b1 kb hA
  go_enter Try.func16, Try.ntmps16
  go_upto_region 2 with fail
  refine world_cut (fun W => TkAt W (w.heap.size + 1 + 1) (w.heap.size + 1) w.heap.size v c l (.ok l) ∧ Blk W w.heap.size 27 zeroM ∧ Below w.heap.size w W) HStart.out ?_
  clear HStart
  rintro w1 ⟨htk, hbr, hbl⟩
  obtain ⟨T, hT⟩ : ∃ T, T = w.heap.size + 1 + 1 := ⟨_, rfl⟩
  obtain ⟨Q, hQ⟩ : ∃ Q, Q = w.heap.size + 1 := ⟨_, rfl⟩
  obtain ⟨R, hR⟩ : ∃ R, R = w.heap.size := ⟨_, rfl⟩
  rw [← hT, ← hQ] at htk
  rw [← hT, ← hQ, ← hR]
  rw [← hR] at hbr
  have hrl : w.heap.size ≤ R := by omega
  have hrq : R < Q := by omega
  have hqt : Q < T := by omega
  have c0 : w1.cell? ⟨T, 0, none⟩ = some (.pointer (some ⟨Q, 0, none⟩)) := by rw [htk.tb.cell]; rfl
  have HTk := Lib.hid htk
  have HBr := Lib.hid hbr
  have HBl := Lib.hid hbl
  clear htk hbr hbl hT hQ hR
  have HN := Lib.hid (show Calls Try.prog 34 #[.pointer (some ⟨Q, 0, none⟩)] w1 fun e w' => e = .returned (.tuple #[.int .u8 3, .int .i64 0]) ∧ RAt w' Q w.heap.size v c l q ∧ Only Q w1 w' from refreadByte_ok (HTk.out.rd l rfl) hg)
  have HByte := Lib.hid hg
  clear hg
  go_wp2_with fail
  refine HN.out.mono ?_
  rintro e w2 ⟨rfl, hr2, ho2⟩
  have htk2 : TkAt w2 T Q w.heap.size v c l (.ok q) := ⟨HTk.out.tb.onlyR ho2 (by omega), (fun r hr => by cases hr; exact hr2), (fun c hc => by cases hc), Nat.lt_of_lt_of_le HTk.out.ql ho2.size, HTk.out.gq, hqt⟩
  have HTk2 := Lib.hid htk2
  have HBr2 := Lib.hid (HBr.out.onlyR ho2 (by omega))
  have HBl2 := Lib.hid (HBl.out.trans (ho2.below (by omega) HBl.out.size))
  clear htk2 hr2 ho2 HN HTk HBr HBl c0
  go_wp2_with (refine wpList_store_all rfl 27 (.tmp 7) (.tmp 41) rfl w2.heap.size #[.int .i64 3, .int .u64 0, .int .u64 0, .int .u64 0, .int .u64 0, .int .u64 0, .int .u64 0, .int .u64 0, .bool false, .slice none 0 0, .slice none 0 0, .slice none 0 0] rfl rfl 27 zeroM (Blk.new w2 _ _) (by kernel_rfl) rfl (by kernel_rfl) ?_; intro wz hbz hoz; (have HBz := Lib.hid hbz); (have HOz := Lib.hid hoz); clear hbz hoz)
  have hG0 : GAt w R Q T w2.heap.size v c l (.ok q) #[.int .i64 3, .int .u64 0, .int .u64 0, .int .u64 0, .int .u64 0, .int .u64 0, .int .u64 0, .int .u64 0, .bool false, .slice none 0 0, .slice none 0 0, .slice none 0 0] wz := by
    have h1 := HTk2.out.tl
    have h2 := HTk2.out.ql
    have h3 := HBr2.out.lt
    have hb := (Below.refl w2.heap.size w2).alloc (Nat.le_refl _) (.cells zeroM 27)
    exact ⟨(HTk2.out.below hb).only HOz.out (fun k hk e => by omega) (by omega) (by omega), (HBr2.out.keep hb).onlyS HOz.out (by omega), HBz.out, (HBl2.out.trans (hb.mono HBl2.out.size)).trans (HOz.out.below (fun k hk e => by have := HBl2.out.size; omega) (by have := HBl2.out.size; simp only [World.size_alloc]; omega)), hrl, hrq, h1⟩
  obtain ⟨Z, hZ⟩ : ∃ Z, Z = w2.heap.size := ⟨_, rfl⟩
  rw [← hZ] at hG0 ⊢
  have HG0 := Lib.hid hG0
  clear hG0 hZ HTk2 HBr2 HBl2 HBz HOz
  refine (tknum_any 1 7 (by decide) (by decide) HG0.out.tk).mono ?_
  rintro e x47 ⟨nf, s47, rfl, hv47, ht47, tk47, ho47⟩
  have HV47 := Lib.hid hv47
  have HT47 := Lib.hid ht47
  have HG47 := Lib.hid (HG0.out.call tk47 ho47)
  clear hv47 ht47 tk47 ho47 HG0
  go_wp2_with (refine wpList_store_fld rfl 22 (.tmp 44) (.tmp 43) rfl Z 1 (.int .u64 (nf : Int)) rfl rfl 27 #[.int .i64 3, .int .u64 0, .int .u64 0, .int .u64 0, .int .u64 0, .int .u64 0, .int .u64 0, .int .u64 0, .bool false, .slice none 0 0, .slice none 0 0, .slice none 0 0] #[.int .i64 3, .int .u64 (nf : Int), .int .u64 0, .int .u64 0, .int .u64 0, .int .u64 0, .int .u64 0, .int .u64 0, .bool false, .slice none 0 0, .slice none 0 0, .slice none 0 0] HG47.out.bz (by simp) rfl (by kernel_rfl) rfl ?_; intro y48 hb ho; (have HG48 := Lib.hid (HG47.out.set hb ho)); clear hb ho HG47)
  refine (tknum_any 1 7 (by decide) (by decide) HG48.out.tk).mono ?_
  rintro e x49 ⟨no, s49, rfl, hv49, ht49, tk49, ho49⟩
  have HV49 := Lib.hid hv49
  have HT49 := Lib.hid ht49
  have HG49 := Lib.hid (HG48.out.call tk49 ho49)
  clear hv49 ht49 tk49 ho49 HG48
  go_wp2_with (refine wpList_store_fld rfl 22 (.tmp 47) (.tmp 46) rfl Z 2 (.int .u64 (no : Int)) rfl rfl 27 #[.int .i64 3, .int .u64 (nf : Int), .int .u64 0, .int .u64 0, .int .u64 0, .int .u64 0, .int .u64 0, .int .u64 0, .bool false, .slice none 0 0, .slice none 0 0, .slice none 0 0] #[.int .i64 3, .int .u64 (nf : Int), .int .u64 (no : Int), .int .u64 0, .int .u64 0, .int .u64 0, .int .u64 0, .int .u64 0, .bool false, .slice none 0 0, .slice none 0 0, .slice none 0 0] HG49.out.bz (by simp) rfl (by kernel_rfl) rfl ?_; intro y50 hb ho; (have HG50 := Lib.hid (HG49.out.set hb ho)); clear hb ho HG49)
  refine (tknum_any 1 4611686018427387904 (by decide) (by decide) HG50.out.tk).mono ?_
  rintro e x51 ⟨nt, s51, rfl, hv51, ht51, tk51, ho51⟩
  have HV51 := Lib.hid hv51
  have HT51 := Lib.hid ht51
  have HG51 := Lib.hid (HG50.out.call tk51 ho51)
  clear hv51 ht51 tk51 ho51 HG50
  go_wp2_with (refine wpList_store_fld rfl 22 (.tmp 50) (.tmp 49) rfl Z 3 (.int .u64 (nt : Int)) rfl rfl 27 #[.int .i64 3, .int .u64 (nf : Int), .int .u64 (no : Int), .int .u64 0, .int .u64 0, .int .u64 0, .int .u64 0, .int .u64 0, .bool false, .slice none 0 0, .slice none 0 0, .slice none 0 0] #[.int .i64 3, .int .u64 (nf : Int), .int .u64 (no : Int), .int .u64 (nt : Int), .int .u64 0, .int .u64 0, .int .u64 0, .int .u64 0, .bool false, .slice none 0 0, .slice none 0 0, .slice none 0 0] HG51.out.bz (by simp) rfl (by kernel_rfl) rfl ?_; intro y52 hb ho; (have HG52 := Lib.hid (HG51.out.set hb ho)); (have cz : y52.cell? ⟨Z, 0, none⟩ = some (.int .i64 3) := by rw [hb.cell]; rfl); clear hb ho HG51)
  refine (tknum_any 0 4611686018427387904 (by decide) (by decide) HG52.out.tk).mono ?_
  rintro e x53 ⟨ni, s53, rfl, hv53, ht53, tk53, ho53⟩
  have HV53 := Lib.hid hv53
  have HT53 := Lib.hid ht53
  have HG53 := Lib.hid (HG52.out.call tk53 ho53)
  clear hv53 ht53 tk53 ho53 HG52
  go_wp2_with (refine wpList_store_fld rfl 22 (.tmp 70) (.tmp 69) rfl Z 4 (.int .u64 (ni : Int)) rfl rfl 27 #[.int .i64 3, .int .u64 (nf : Int), .int .u64 (no : Int), .int .u64 (nt : Int), .int .u64 0, .int .u64 0, .int .u64 0, .int .u64 0, .bool false, .slice none 0 0, .slice none 0 0, .slice none 0 0] #[.int .i64 3, .int .u64 (nf : Int), .int .u64 (no : Int), .int .u64 (nt : Int), .int .u64 (ni : Int), .int .u64 0, .int .u64 0, .int .u64 0, .bool false, .slice none 0 0, .slice none 0 0, .slice none 0 0] HG53.out.bz (by simp) rfl (by kernel_rfl) rfl ?_; intro y54 hb ho; (have HG54 := Lib.hid (HG53.out.set hb ho)); clear hb ho HG53)
  refine (tknum_any 0 4611686018427387904 (by decide) (by decide) HG54.out.tk).mono ?_
  rintro e x55 ⟨nl, s55, rfl, hv55, ht55, tk55, ho55⟩
  have HV55 := Lib.hid hv55
  have HT55 := Lib.hid ht55
  have HG55 := Lib.hid (HG54.out.call tk55 ho55)
  clear hv55 ht55 tk55 ho55 HG54
  go_wp2_with (refine wpList_store_fld rfl 22 (.tmp 73) (.tmp 72) rfl Z 5 (.int .u64 (nl : Int)) rfl rfl 27 #[.int .i64 3, .int .u64 (nf : Int), .int .u64 (no : Int), .int .u64 (nt : Int), .int .u64 (ni : Int), .int .u64 0, .int .u64 0, .int .u64 0, .bool false, .slice none 0 0, .slice none 0 0, .slice none 0 0] #[.int .i64 3, .int .u64 (nf : Int), .int .u64 (no : Int), .int .u64 (nt : Int), .int .u64 (ni : Int), .int .u64 (nl : Int), .int .u64 0, .int .u64 0, .bool false, .slice none 0 0, .slice none 0 0, .slice none 0 0] HG55.out.bz (by simp) rfl (by kernel_rfl) rfl ?_; intro y56 hb ho; (have HG56 := Lib.hid (HG55.out.set hb ho)); clear hb ho HG55)
  refine (tknum_any 0 4611686018427387904 (by decide) (by decide) HG56.out.tk).mono ?_
  rintro e x57 ⟨nc, s57, rfl, hv57, ht57, tk57, ho57⟩
  have HV57 := Lib.hid hv57
  have HT57 := Lib.hid ht57
  have HG57 := Lib.hid (HG56.out.call tk57 ho57)
  clear hv57 ht57 tk57 ho57 HG56
  go_wp2_with (refine wpList_store_fld rfl 22 (.tmp 76) (.tmp 75) rfl Z 6 (.int .u64 (nc : Int)) rfl rfl 27 #[.int .i64 3, .int .u64 (nf : Int), .int .u64 (no : Int), .int .u64 (nt : Int), .int .u64 (ni : Int), .int .u64 (nl : Int), .int .u64 0, .int .u64 0, .bool false, .slice none 0 0, .slice none 0 0, .slice none 0 0] #[.int .i64 3, .int .u64 (nf : Int), .int .u64 (no : Int), .int .u64 (nt : Int), .int .u64 (ni : Int), .int .u64 (nl : Int), .int .u64 (nc : Int), .int .u64 0, .bool false, .slice none 0 0, .slice none 0 0, .slice none 0 0] HG57.out.bz (by simp) rfl (by kernel_rfl) rfl ?_; intro y58 hb ho; (have HG58 := Lib.hid (HG57.out.set hb ho)); clear hb ho HG57)
  refine (tknum_any 0 18446744073709551615 (by decide) (by decide) HG58.out.tk).mono ?_
  rintro e x59 ⟨ns, s59, rfl, hv59, ht59, tk59, ho59⟩
  have HV59 := Lib.hid hv59
  have HT59 := Lib.hid ht59
  have HG59 := Lib.hid (HG58.out.call tk59 ho59)
  clear hv59 ht59 tk59 ho59 HG58
  go_wp2_with (refine wpList_store_fld rfl 22 (.tmp 80) (.tmp 79) rfl Z 7 (.int .u64 (ns : Int)) rfl rfl 27 #[.int .i64 3, .int .u64 (nf : Int), .int .u64 (no : Int), .int .u64 (nt : Int), .int .u64 (ni : Int), .int .u64 (nl : Int), .int .u64 (nc : Int), .int .u64 0, .bool false, .slice none 0 0, .slice none 0 0, .slice none 0 0] #[.int .i64 3, .int .u64 (nf : Int), .int .u64 (no : Int), .int .u64 (nt : Int), .int .u64 (ni : Int), .int .u64 (nl : Int), .int .u64 (nc : Int), .int .u64 (ns : Int), .bool false, .slice none 0 0, .slice none 0 0, .slice none 0 0] HG59.out.bz (by simp) rfl (by kernel_rfl) rfl ?_; intro y60 hb ho; (have HG60 := Lib.hid (HG59.out.set hb ho)); clear hb ho HG59)
  refine (tknum_any 0 18446744073709551615 (by decide) (by decide) HG60.out.tk).mono ?_
  rintro e x61 ⟨nn, s61, rfl, hv61, ht61, tk61, ho61⟩
  have HV61 := Lib.hid hv61
  have HT61 := Lib.hid ht61
  have HG61 := Lib.hid (HG60.out.call tk61 ho61)
  clear hv61 ht61 tk61 ho61 HG60
  have HNn := Lib.hid HV61.out
  have hnn64 := HNn.out
  cases s61 with
  | error cc =>
    have hcc := HG61.out.tk.er cc rfl
    have c0 : x61.cell? ⟨T, 0, none⟩ = some (.pointer (some ⟨Q, 0, none⟩)) := by rw [HG61.out.tk.tb.cell]; rfl
    have c1 : x61.cell? ⟨T, 1, none⟩ = some (.int .i64 (cc : Int)) := by rw [HG61.out.tk.tb.cell]; rfl
    have hz : ((cc : Int) == 0) = false := by simp; omega
    have hz2 : ((cc : Int) != 0) = true := by simp; omega
    have hgq := HG61.out.tk
    go_wp2
    go_loopw [10] (fun s10 wr => s10 = .int .u64 0 ∧ wr = x61) (fun _ _ => 0)
    case atStart => exact ⟨rfl, rfl⟩
    case round =>
      obtain ⟨rfl, hwr⟩ := hrel
      subst hwr
      clear hgq
      by_cases hn0 : 0 < nn
      · have d1 : decide ((0 : Int) < (nn : Int)) = true := decide_eq_true (by omega)
        have c0 : wr.cell? ⟨T, 0, none⟩ = some (.pointer (some ⟨Q, 0, none⟩)) := by rw [HG61.out.tk.tb.cell]; rfl
        have c1 : wr.cell? ⟨T, 1, none⟩ = some (.int .i64 (cc : Int)) := by rw [HG61.out.tk.tb.cell]; rfl
        have hz3 : ((cc : Int) == 0) = false := by simp; omega
        have hz4 : ((cc : Int) != 0) = true := by simp; omega
        have HGet := Lib.hid (show getM l = (Mg.zero, cc) from MsgMath.getM_fault (show gMsg l = tag (⟨3, nf, no, nt, ni, nl, nc, ns, false, [], [], []⟩ : Mg) (.error cc) from (MsgMath.msg_head HByte.out (by omega) HT47.out HT49.out HT51.out).trans (MsgMath.body_3 HT53.out HT55.out HT57.out HT59.out HT61.out (show thru (gEnts nn) (MsgMath.manyS nn (.error cc : St)) = tag [] (.error cc) from rfl))))
        go_upto_region 50 with fail
        clear c0 c1
        have hgr := HG61.out
        have h1 := hgr.rl
        have h2 := hgr.rq
        have h3 := hgr.tk.qt
        refine region_by [(213, .is (.agg zeroM)), (214, .is (.pointer (some ⟨T, 0, none⟩))), (215, .is (.pointer (some ⟨T, 0, none⟩))), (216, .is (.pointer (some ⟨T, 1, none⟩))), (217, .is (.int .i64 (cc : Int))), (3, .is (.int .i64 (cc : Int)))] [2, 3] (fun W => OnlyS (fun k => k = R) wr W ∧ Blk W R 27 zeroM) (by kernel_rfl) (by kernel_rfl) (by kernel_rfl) (by kernel_rfl) (by kernel_rfl) ⟨(OnlyS.refl _ _).drew, hgr.br.keep ((Below.refl _ _).drew)⟩ ?_ ?_
        · refine ⟨?c0, ?c1, ?c2, ?c3, ?c4, ?c5, ?c6, trivial⟩
          case c0 => exact ask_exec (guard_none rfl) (.agg zeroM) rfl rfl (by intro k hk; cases hk; rfl) (fun W hW => by kernel_rfl)
          case c1 => exact ask_copy (guard_none rfl) (.tmp 4) (.inl rfl) (by intro k hk; cases hk; rfl)
          case c2 => exact ask_exec (guard_none rfl) (.pointer (some ⟨T, 0, none⟩)) rfl rfl (by intro k hk; cases hk; rfl) (fun W hW => by kernel_rfl)
          case c3 => exact ask_field (guard_none rfl) _ (.tmp 215) 1 (.pointer (some ⟨T, 0, none⟩)) (.pointer (some ⟨T, 1, none⟩)) rfl rfl (by intro k hk; cases hk; rfl) (fun W => by kernel_rfl)
          case c4 => exact ask_load (guard_none rfl) _ (.tmp 216) (.pointer (some ⟨T, 1, none⟩)) (.int .i64 (cc : Int)) rfl rfl (by intro k hk; cases hk; rfl) (fun W hW => load_err W _ _ (by rw [(hgr.tk.tb.onlyS hW.1 (by omega)).cell]; rfl))
          case c5 => exact ask_store_same (guard_none rfl) 27 (.tmp 2) (.tmp 213) R zeroM rfl rfl rfl rfl (facts_is (by simp [isFact])) (fun W hW => ⟨hW.2.stores 27 _ (by kernel_rfl) rfl (by kernel_rfl), hW.1.trans (setRow_onlyS W R zeroM), hW.2.row _⟩)
          case c6 => exact ask_copy (guard_none rfl) (.tmp 217) (.inr rfl) (by intro k hk; cases hk; rfl)
        · intro a' W hW hd' hs' hf'
          have t2 : a'.tmps.getD 2 undef = .pointer (some ⟨R, 0, none⟩) := hf' 2 rfl
          have t3 : a'.tmps.getD 3 undef = .int .i64 (cc : Int) := hf' 3 rfl
          obtain ⟨us', hus, ha'⟩ := act_open 219 a' hs' hd'
          rw [← hus] at t2 t3
          have el : ((List.range 219).map us').toArray = #[us' 0, us' 1, .pointer (some ⟨R, 0, none⟩), .int .i64 (cc : Int), us' 4, us' 5, us' 6, us' 7, us' 8, us' 9, us' 10, us' 11, us' 12, us' 13, us' 14, us' 15, us' 16, us' 17, us' 18, us' 19, us' 20, us' 21, us' 22, us' 23, us' 24, us' 25, us' 26, us' 27, us' 28, us' 29, us' 30, us' 31, us' 32, us' 33, us' 34, us' 35, us' 36, us' 37, us' 38, us' 39, us' 40, us' 41, us' 42, us' 43, us' 44, us' 45, us' 46, us' 47, us' 48, us' 49, us' 50, us' 51, us' 52, us' 53, us' 54, us' 55, us' 56, us' 57, us' 58, us' 59, us' 60, us' 61, us' 62, us' 63, us' 64, us' 65, us' 66, us' 67, us' 68, us' 69, us' 70, us' 71, us' 72, us' 73, us' 74, us' 75, us' 76, us' 77, us' 78, us' 79, us' 80, us' 81, us' 82, us' 83, us' 84, us' 85, us' 86, us' 87, us' 88, us' 89, us' 90, us' 91, us' 92, us' 93, us' 94, us' 95, us' 96, us' 97, us' 98, us' 99, us' 100, us' 101, us' 102, us' 103, us' 104, us' 105, us' 106, us' 107, us' 108, us' 109, us' 110, us' 111, us' 112, us' 113, us' 114, us' 115, us' 116, us' 117, us' 118, us' 119, us' 120, us' 121, us' 122, us' 123, us' 124, us' 125, us' 126, us' 127, us' 128, us' 129, us' 130, us' 131, us' 132, us' 133, us' 134, us' 135, us' 136, us' 137, us' 138, us' 139, us' 140, us' 141, us' 142, us' 143, us' 144, us' 145, us' 146, us' 147, us' 148, us' 149, us' 150, us' 151, us' 152, us' 153, us' 154, us' 155, us' 156, us' 157, us' 158, us' 159, us' 160, us' 161, us' 162, us' 163, us' 164, us' 165, us' 166, us' 167, us' 168, us' 169, us' 170, us' 171, us' 172, us' 173, us' 174, us' 175, us' 176, us' 177, us' 178, us' 179, us' 180, us' 181, us' 182, us' 183, us' 184, us' 185, us' 186, us' 187, us' 188, us' 189, us' 190, us' 191, us' 192, us' 193, us' 194, us' 195, us' 196, us' 197, us' 198, us' 199, us' 200, us' 201, us' 202, us' 203, us' 204, us' 205, us' 206, us' 207, us' 208, us' 209, us' 210, us' 211, us' 212, us' 213, us' 214, us' 215, us' 216, us' 217, us' 218] := by
            show #[us' 0, us' 1, us' 2, us' 3, us' 4, us' 5, us' 6, us' 7, us' 8, us' 9, us' 10, us' 11, us' 12, us' 13, us' 14, us' 15, us' 16, us' 17, us' 18, us' 19, us' 20, us' 21, us' 22, us' 23, us' 24, us' 25, us' 26, us' 27, us' 28, us' 29, us' 30, us' 31, us' 32, us' 33, us' 34, us' 35, us' 36, us' 37, us' 38, us' 39, us' 40, us' 41, us' 42, us' 43, us' 44, us' 45, us' 46, us' 47, us' 48, us' 49, us' 50, us' 51, us' 52, us' 53, us' 54, us' 55, us' 56, us' 57, us' 58, us' 59, us' 60, us' 61, us' 62, us' 63, us' 64, us' 65, us' 66, us' 67, us' 68, us' 69, us' 70, us' 71, us' 72, us' 73, us' 74, us' 75, us' 76, us' 77, us' 78, us' 79, us' 80, us' 81, us' 82, us' 83, us' 84, us' 85, us' 86, us' 87, us' 88, us' 89, us' 90, us' 91, us' 92, us' 93, us' 94, us' 95, us' 96, us' 97, us' 98, us' 99, us' 100, us' 101, us' 102, us' 103, us' 104, us' 105, us' 106, us' 107, us' 108, us' 109, us' 110, us' 111, us' 112, us' 113, us' 114, us' 115, us' 116, us' 117, us' 118, us' 119, us' 120, us' 121, us' 122, us' 123, us' 124, us' 125, us' 126, us' 127, us' 128, us' 129, us' 130, us' 131, us' 132, us' 133, us' 134, us' 135, us' 136, us' 137, us' 138, us' 139, us' 140, us' 141, us' 142, us' 143, us' 144, us' 145, us' 146, us' 147, us' 148, us' 149, us' 150, us' 151, us' 152, us' 153, us' 154, us' 155, us' 156, us' 157, us' 158, us' 159, us' 160, us' 161, us' 162, us' 163, us' 164, us' 165, us' 166, us' 167, us' 168, us' 169, us' 170, us' 171, us' 172, us' 173, us' 174, us' 175, us' 176, us' 177, us' 178, us' 179, us' 180, us' 181, us' 182, us' 183, us' 184, us' 185, us' 186, us' 187, us' 188, us' 189, us' 190, us' 191, us' 192, us' 193, us' 194, us' 195, us' 196, us' 197, us' 198, us' 199, us' 200, us' 201, us' 202, us' 203, us' 204, us' 205, us' 206, us' 207, us' 208, us' 209, us' 210, us' 211, us' 212, us' 213, us' 214, us' 215, us' 216, us' 217, us' 218] = _
            rw [t2, t3]
          rw [el] at ha'
          subst ha'
          clear hus t2 t3 el hf' hs' hd'
          have HW := Lib.hid hW
          clear hW
          go_wp2
          exact bodyPost_ret (v := .tuple #[.agg zeroM, .int .i64 (cc : Int)]) (ret_msg rfl _ _ R zeroM _ rfl rfl rfl HW.out.2) rfl (mGetEnd_err HGet.out (hgr.bl.trans (HW.out.1.below (fun k hk e => by omega) hgr.bl.size)))
      · have d1 : decide ((0 : Int) < (nn : Int)) = false := decide_eq_false (by omega)
        have c0 : wr.cell? ⟨T, 0, none⟩ = some (.pointer (some ⟨Q, 0, none⟩)) := by rw [HG61.out.tk.tb.cell]; rfl
        have c1 : wr.cell? ⟨T, 1, none⟩ = some (.int .i64 (cc : Int)) := by rw [HG61.out.tk.tb.cell]; rfl
        have hz3 : ((cc : Int) == 0) = false := by simp; omega
        have hz4 : ((cc : Int) != 0) = true := by simp; omega
        have HGet := Lib.hid (show getM l = (Mg.zero, cc) from MsgMath.getM_fault (show gMsg l = tag (⟨3, nf, no, nt, ni, nl, nc, ns, false, [], [], []⟩ : Mg) (.error cc) from (MsgMath.msg_head HByte.out (by omega) HT47.out HT49.out HT51.out).trans (MsgMath.body_3 HT53.out HT55.out HT57.out HT59.out HT61.out (show thru (gEnts nn) (MsgMath.manyS nn (.error cc : St)) = tag [] (.error cc) from rfl))))
        go_upto_region 50 with fail
        clear c0 c1
        have hgr := HG61.out
        have h1 := hgr.rl
        have h2 := hgr.rq
        have h3 := hgr.tk.qt
        refine region_by [(213, .is (.agg zeroM)), (214, .is (.pointer (some ⟨T, 0, none⟩))), (215, .is (.pointer (some ⟨T, 0, none⟩))), (216, .is (.pointer (some ⟨T, 1, none⟩))), (217, .is (.int .i64 (cc : Int))), (3, .is (.int .i64 (cc : Int)))] [2, 3] (fun W => OnlyS (fun k => k = R) wr W ∧ Blk W R 27 zeroM) (by kernel_rfl) (by kernel_rfl) (by kernel_rfl) (by kernel_rfl) (by kernel_rfl) ⟨(OnlyS.refl _ _).drew, hgr.br.keep ((Below.refl _ _).drew)⟩ ?_ ?_
        · refine ⟨?c0, ?c1, ?c2, ?c3, ?c4, ?c5, ?c6, trivial⟩
          case c0 => exact ask_exec (guard_none rfl) (.agg zeroM) rfl rfl (by intro k hk; cases hk; rfl) (fun W hW => by kernel_rfl)
          case c1 => exact ask_copy (guard_none rfl) (.tmp 4) (.inl rfl) (by intro k hk; cases hk; rfl)
          case c2 => exact ask_exec (guard_none rfl) (.pointer (some ⟨T, 0, none⟩)) rfl rfl (by intro k hk; cases hk; rfl) (fun W hW => by kernel_rfl)
          case c3 => exact ask_field (guard_none rfl) _ (.tmp 215) 1 (.pointer (some ⟨T, 0, none⟩)) (.pointer (some ⟨T, 1, none⟩)) rfl rfl (by intro k hk; cases hk; rfl) (fun W => by kernel_rfl)
          case c4 => exact ask_load (guard_none rfl) _ (.tmp 216) (.pointer (some ⟨T, 1, none⟩)) (.int .i64 (cc : Int)) rfl rfl (by intro k hk; cases hk; rfl) (fun W hW => load_err W _ _ (by rw [(hgr.tk.tb.onlyS hW.1 (by omega)).cell]; rfl))
          case c5 => exact ask_store_same (guard_none rfl) 27 (.tmp 2) (.tmp 213) R zeroM rfl rfl rfl rfl (facts_is (by simp [isFact])) (fun W hW => ⟨hW.2.stores 27 _ (by kernel_rfl) rfl (by kernel_rfl), hW.1.trans (setRow_onlyS W R zeroM), hW.2.row _⟩)
          case c6 => exact ask_copy (guard_none rfl) (.tmp 217) (.inr rfl) (by intro k hk; cases hk; rfl)
        · intro a' W hW hd' hs' hf'
          have t2 : a'.tmps.getD 2 undef = .pointer (some ⟨R, 0, none⟩) := hf' 2 rfl
          have t3 : a'.tmps.getD 3 undef = .int .i64 (cc : Int) := hf' 3 rfl
          obtain ⟨us', hus, ha'⟩ := act_open 219 a' hs' hd'
          rw [← hus] at t2 t3
          have el : ((List.range 219).map us').toArray = #[us' 0, us' 1, .pointer (some ⟨R, 0, none⟩), .int .i64 (cc : Int), us' 4, us' 5, us' 6, us' 7, us' 8, us' 9, us' 10, us' 11, us' 12, us' 13, us' 14, us' 15, us' 16, us' 17, us' 18, us' 19, us' 20, us' 21, us' 22, us' 23, us' 24, us' 25, us' 26, us' 27, us' 28, us' 29, us' 30, us' 31, us' 32, us' 33, us' 34, us' 35, us' 36, us' 37, us' 38, us' 39, us' 40, us' 41, us' 42, us' 43, us' 44, us' 45, us' 46, us' 47, us' 48, us' 49, us' 50, us' 51, us' 52, us' 53, us' 54, us' 55, us' 56, us' 57, us' 58, us' 59, us' 60, us' 61, us' 62, us' 63, us' 64, us' 65, us' 66, us' 67, us' 68, us' 69, us' 70, us' 71, us' 72, us' 73, us' 74, us' 75, us' 76, us' 77, us' 78, us' 79, us' 80, us' 81, us' 82, us' 83, us' 84, us' 85, us' 86, us' 87, us' 88, us' 89, us' 90, us' 91, us' 92, us' 93, us' 94, us' 95, us' 96, us' 97, us' 98, us' 99, us' 100, us' 101, us' 102, us' 103, us' 104, us' 105, us' 106, us' 107, us' 108, us' 109, us' 110, us' 111, us' 112, us' 113, us' 114, us' 115, us' 116, us' 117, us' 118, us' 119, us' 120, us' 121, us' 122, us' 123, us' 124, us' 125, us' 126, us' 127, us' 128, us' 129, us' 130, us' 131, us' 132, us' 133, us' 134, us' 135, us' 136, us' 137, us' 138, us' 139, us' 140, us' 141, us' 142, us' 143, us' 144, us' 145, us' 146, us' 147, us' 148, us' 149, us' 150, us' 151, us' 152, us' 153, us' 154, us' 155, us' 156, us' 157, us' 158, us' 159, us' 160, us' 161, us' 162, us' 163, us' 164, us' 165, us' 166, us' 167, us' 168, us' 169, us' 170, us' 171, us' 172, us' 173, us' 174, us' 175, us' 176, us' 177, us' 178, us' 179, us' 180, us' 181, us' 182, us' 183, us' 184, us' 185, us' 186, us' 187, us' 188, us' 189, us' 190, us' 191, us' 192, us' 193, us' 194, us' 195, us' 196, us' 197, us' 198, us' 199, us' 200, us' 201, us' 202, us' 203, us' 204, us' 205, us' 206, us' 207, us' 208, us' 209, us' 210, us' 211, us' 212, us' 213, us' 214, us' 215, us' 216, us' 217, us' 218] := by
            show #[us' 0, us' 1, us' 2, us' 3, us' 4, us' 5, us' 6, us' 7, us' 8, us' 9, us' 10, us' 11, us' 12, us' 13, us' 14, us' 15, us' 16, us' 17, us' 18, us' 19, us' 20, us' 21, us' 22, us' 23, us' 24, us' 25, us' 26, us' 27, us' 28, us' 29, us' 30, us' 31, us' 32, us' 33, us' 34, us' 35, us' 36, us' 37, us' 38, us' 39, us' 40, us' 41, us' 42, us' 43, us' 44, us' 45, us' 46, us' 47, us' 48, us' 49, us' 50, us' 51, us' 52, us' 53, us' 54, us' 55, us' 56, us' 57, us' 58, us' 59, us' 60, us' 61, us' 62, us' 63, us' 64, us' 65, us' 66, us' 67, us' 68, us' 69, us' 70, us' 71, us' 72, us' 73, us' 74, us' 75, us' 76, us' 77, us' 78, us' 79, us' 80, us' 81, us' 82, us' 83, us' 84, us' 85, us' 86, us' 87, us' 88, us' 89, us' 90, us' 91, us' 92, us' 93, us' 94, us' 95, us' 96, us' 97, us' 98, us' 99, us' 100, us' 101, us' 102, us' 103, us' 104, us' 105, us' 106, us' 107, us' 108, us' 109, us' 110, us' 111, us' 112, us' 113, us' 114, us' 115, us' 116, us' 117, us' 118, us' 119, us' 120, us' 121, us' 122, us' 123, us' 124, us' 125, us' 126, us' 127, us' 128, us' 129, us' 130, us' 131, us' 132, us' 133, us' 134, us' 135, us' 136, us' 137, us' 138, us' 139, us' 140, us' 141, us' 142, us' 143, us' 144, us' 145, us' 146, us' 147, us' 148, us' 149, us' 150, us' 151, us' 152, us' 153, us' 154, us' 155, us' 156, us' 157, us' 158, us' 159, us' 160, us' 161, us' 162, us' 163, us' 164, us' 165, us' 166, us' 167, us' 168, us' 169, us' 170, us' 171, us' 172, us' 173, us' 174, us' 175, us' 176, us' 177, us' 178, us' 179, us' 180, us' 181, us' 182, us' 183, us' 184, us' 185, us' 186, us' 187, us' 188, us' 189, us' 190, us' 191, us' 192, us' 193, us' 194, us' 195, us' 196, us' 197, us' 198, us' 199, us' 200, us' 201, us' 202, us' 203, us' 204, us' 205, us' 206, us' 207, us' 208, us' 209, us' 210, us' 211, us' 212, us' 213, us' 214, us' 215, us' 216, us' 217, us' 218] = _
            rw [t2, t3]
          rw [el] at ha'
          subst ha'
          clear hus t2 t3 el hf' hs' hd'
          have HW := Lib.hid hW
          clear hW
          go_wp2
          exact bodyPost_ret (v := .tuple #[.agg zeroM, .int .i64 (cc : Int)]) (ret_msg rfl _ _ R zeroM _ rfl rfl rfl HW.out.2) rfl (mGetEnd_err HGet.out (hgr.bl.trans (HW.out.1.below (fun k hk e => by omega) hgr.bl.size)))
  | ok r8 =>
    have c0 : x61.cell? ⟨T, 0, none⟩ = some (.pointer (some ⟨Q, 0, none⟩)) := by rw [HG61.out.tk.tb.cell]; rfl
    have c1 : x61.cell? ⟨T, 1, none⟩ = some (.int .i64 0) := by rw [HG61.out.tk.tb.cell]; rfl
    by_cases hn4 : nn ≤ 4
    · have d4 : decide ((nn : Int) > 4) = false := decide_eq_false (by omega)
      have d5 : decide ((4 : Int) < (nn : Int)) = false := decide_eq_false (by omega)
      have HMany := Lib.hid (show MsgMath.manyS nn (.ok r8 : St) = .ok r8 from if_pos hn4)
      go_wp2
      clear c0 c1 d4 d5
      go_loopw [10] (fun s10 wr => ∃ (j : Nat) (us : List EE) (ea : Option Addr) (ec : Nat) (st : St), s10 = .int .u64 (j : Int) ∧ j ≤ nn ∧ us.length = j ∧ GAt w R Q T Z v c l st #[.int .i64 3, .int .u64 (nf : Int), .int .u64 (no : Int), .int .u64 (nt : Int), .int .u64 (ni : Int), .int .u64 (nl : Int), .int .u64 (nc : Int), .int .u64 (ns : Int), .bool false, .slice ea us.length ec, .slice none 0 0, .slice none 0 0] wr ∧ ERow wr (Z + 1) (.slice ea us.length ec) us ∧ EMine wr (Z + 1) us ∧ thru (gEnts nn) (.ok r8) = thru (MsgMath.moreE (nn - j) (us.map EE.e)) st) (fun s10 _ => nn - (intOf s10).toNat)
      case atStart => exact ⟨0, [], none, 0, .ok r8, rfl, Nat.zero_le _, rfl, HG61.out, ERow.nil _ _, fun u hu => absurd hu List.not_mem_nil, MsgMath.moreE_start nn _⟩
      case round =>
        obtain ⟨j, us, ea, ec, st, rfl, hj, hul, hga, her, hem, hth⟩ := hrel
        have HGA := Lib.hid hga
        have HER := Lib.hid her
        have HEM := Lib.hid hem
        have HTH := Lib.hid hth
        have HUL := Lib.hid hul
        clear hga her hem hth hul HG61
        cases st with
        | error cc =>
          have hcc := HGA.out.tk.er cc rfl
          by_cases hlt : j < nn
          · have d1 : decide ((j : Int) < (nn : Int)) = true := decide_eq_true (by omega)
            have c0 : wr.cell? ⟨T, 0, none⟩ = some (.pointer (some ⟨Q, 0, none⟩)) := by rw [HGA.out.tk.tb.cell]; rfl
            have c1 : wr.cell? ⟨T, 1, none⟩ = some (.int .i64 (cc : Int)) := by rw [HGA.out.tk.tb.cell]; rfl
            have hz : ((cc : Int) == 0) = false := by simp; omega
            have hz2 : ((cc : Int) != 0) = true := by simp; omega
            have HGet := Lib.hid (show getM l = (Mg.zero, cc) from MsgMath.getM_fault (show gMsg l = tag (⟨3, nf, no, nt, ni, nl, nc, ns, false, [], [], []⟩ : Mg) (.error cc) from (MsgMath.msg_head HByte.out (by omega) HT47.out HT49.out HT51.out).trans (MsgMath.body_3 HT53.out HT55.out HT57.out HT59.out HT61.out (show thru (gEnts nn) (MsgMath.manyS nn (.ok r8 : St)) = tag [] (.error cc) from by rw [HMany.out]; exact HTH.out))))
            go_upto_region 50 with fail
            clear c0 c1
            have hgr := HGA.out
            have h1 := hgr.rl
            have h2 := hgr.rq
            have h3 := hgr.tk.qt
            refine region_by [(213, .is (.agg zeroM)), (214, .is (.pointer (some ⟨T, 0, none⟩))), (215, .is (.pointer (some ⟨T, 0, none⟩))), (216, .is (.pointer (some ⟨T, 1, none⟩))), (217, .is (.int .i64 (cc : Int))), (3, .is (.int .i64 (cc : Int)))] [2, 3] (fun W => OnlyS (fun k => k = R) wr W ∧ Blk W R 27 zeroM) (by kernel_rfl) (by kernel_rfl) (by kernel_rfl) (by kernel_rfl) (by kernel_rfl) ⟨(OnlyS.refl _ _).drew, hgr.br.keep ((Below.refl _ _).drew)⟩ ?_ ?_
            · refine ⟨?c0, ?c1, ?c2, ?c3, ?c4, ?c5, ?c6, trivial⟩
              case c0 => exact ask_exec (guard_none rfl) (.agg zeroM) rfl rfl (by intro k hk; cases hk; rfl) (fun W hW => by kernel_rfl)
              case c1 => exact ask_copy (guard_none rfl) (.tmp 4) (.inl rfl) (by intro k hk; cases hk; rfl)
              case c2 => exact ask_exec (guard_none rfl) (.pointer (some ⟨T, 0, none⟩)) rfl rfl (by intro k hk; cases hk; rfl) (fun W hW => by kernel_rfl)
              case c3 => exact ask_field (guard_none rfl) _ (.tmp 215) 1 (.pointer (some ⟨T, 0, none⟩)) (.pointer (some ⟨T, 1, none⟩)) rfl rfl (by intro k hk; cases hk; rfl) (fun W => by kernel_rfl)
              case c4 => exact ask_load (guard_none rfl) _ (.tmp 216) (.pointer (some ⟨T, 1, none⟩)) (.int .i64 (cc : Int)) rfl rfl (by intro k hk; cases hk; rfl) (fun W hW => load_err W _ _ (by rw [(hgr.tk.tb.onlyS hW.1 (by omega)).cell]; rfl))
              case c5 => exact ask_store_same (guard_none rfl) 27 (.tmp 2) (.tmp 213) R zeroM rfl rfl rfl rfl (facts_is (by simp [isFact])) (fun W hW => ⟨hW.2.stores 27 _ (by kernel_rfl) rfl (by kernel_rfl), hW.1.trans (setRow_onlyS W R zeroM), hW.2.row _⟩)
              case c6 => exact ask_copy (guard_none rfl) (.tmp 217) (.inr rfl) (by intro k hk; cases hk; rfl)
            · intro a' W hW hd' hs' hf'
              have t2 : a'.tmps.getD 2 undef = .pointer (some ⟨R, 0, none⟩) := hf' 2 rfl
              have t3 : a'.tmps.getD 3 undef = .int .i64 (cc : Int) := hf' 3 rfl
              obtain ⟨us', hus, ha'⟩ := act_open 219 a' hs' hd'
              rw [← hus] at t2 t3
              have el : ((List.range 219).map us').toArray = #[us' 0, us' 1, .pointer (some ⟨R, 0, none⟩), .int .i64 (cc : Int), us' 4, us' 5, us' 6, us' 7, us' 8, us' 9, us' 10, us' 11, us' 12, us' 13, us' 14, us' 15, us' 16, us' 17, us' 18, us' 19, us' 20, us' 21, us' 22, us' 23, us' 24, us' 25, us' 26, us' 27, us' 28, us' 29, us' 30, us' 31, us' 32, us' 33, us' 34, us' 35, us' 36, us' 37, us' 38, us' 39, us' 40, us' 41, us' 42, us' 43, us' 44, us' 45, us' 46, us' 47, us' 48, us' 49, us' 50, us' 51, us' 52, us' 53, us' 54, us' 55, us' 56, us' 57, us' 58, us' 59, us' 60, us' 61, us' 62, us' 63, us' 64, us' 65, us' 66, us' 67, us' 68, us' 69, us' 70, us' 71, us' 72, us' 73, us' 74, us' 75, us' 76, us' 77, us' 78, us' 79, us' 80, us' 81, us' 82, us' 83, us' 84, us' 85, us' 86, us' 87, us' 88, us' 89, us' 90, us' 91, us' 92, us' 93, us' 94, us' 95, us' 96, us' 97, us' 98, us' 99, us' 100, us' 101, us' 102, us' 103, us' 104, us' 105, us' 106, us' 107, us' 108, us' 109, us' 110, us' 111, us' 112, us' 113, us' 114, us' 115, us' 116, us' 117, us' 118, us' 119, us' 120, us' 121, us' 122, us' 123, us' 124, us' 125, us' 126, us' 127, us' 128, us' 129, us' 130, us' 131, us' 132, us' 133, us' 134, us' 135, us' 136, us' 137, us' 138, us' 139, us' 140, us' 141, us' 142, us' 143, us' 144, us' 145, us' 146, us' 147, us' 148, us' 149, us' 150, us' 151, us' 152, us' 153, us' 154, us' 155, us' 156, us' 157, us' 158, us' 159, us' 160, us' 161, us' 162, us' 163, us' 164, us' 165, us' 166, us' 167, us' 168, us' 169, us' 170, us' 171, us' 172, us' 173, us' 174, us' 175, us' 176, us' 177, us' 178, us' 179, us' 180, us' 181, us' 182, us' 183, us' 184, us' 185, us' 186, us' 187, us' 188, us' 189, us' 190, us' 191, us' 192, us' 193, us' 194, us' 195, us' 196, us' 197, us' 198, us' 199, us' 200, us' 201, us' 202, us' 203, us' 204, us' 205, us' 206, us' 207, us' 208, us' 209, us' 210, us' 211, us' 212, us' 213, us' 214, us' 215, us' 216, us' 217, us' 218] := by
                show #[us' 0, us' 1, us' 2, us' 3, us' 4, us' 5, us' 6, us' 7, us' 8, us' 9, us' 10, us' 11, us' 12, us' 13, us' 14, us' 15, us' 16, us' 17, us' 18, us' 19, us' 20, us' 21, us' 22, us' 23, us' 24, us' 25, us' 26, us' 27, us' 28, us' 29, us' 30, us' 31, us' 32, us' 33, us' 34, us' 35, us' 36, us' 37, us' 38, us' 39, us' 40, us' 41, us' 42, us' 43, us' 44, us' 45, us' 46, us' 47, us' 48, us' 49, us' 50, us' 51, us' 52, us' 53, us' 54, us' 55, us' 56, us' 57, us' 58, us' 59, us' 60, us' 61, us' 62, us' 63, us' 64, us' 65, us' 66, us' 67, us' 68, us' 69, us' 70, us' 71, us' 72, us' 73, us' 74, us' 75, us' 76, us' 77, us' 78, us' 79, us' 80, us' 81, us' 82, us' 83, us' 84, us' 85, us' 86, us' 87, us' 88, us' 89, us' 90, us' 91, us' 92, us' 93, us' 94, us' 95, us' 96, us' 97, us' 98, us' 99, us' 100, us' 101, us' 102, us' 103, us' 104, us' 105, us' 106, us' 107, us' 108, us' 109, us' 110, us' 111, us' 112, us' 113, us' 114, us' 115, us' 116, us' 117, us' 118, us' 119, us' 120, us' 121, us' 122, us' 123, us' 124, us' 125, us' 126, us' 127, us' 128, us' 129, us' 130, us' 131, us' 132, us' 133, us' 134, us' 135, us' 136, us' 137, us' 138, us' 139, us' 140, us' 141, us' 142, us' 143, us' 144, us' 145, us' 146, us' 147, us' 148, us' 149, us' 150, us' 151, us' 152, us' 153, us' 154, us' 155, us' 156, us' 157, us' 158, us' 159, us' 160, us' 161, us' 162, us' 163, us' 164, us' 165, us' 166, us' 167, us' 168, us' 169, us' 170, us' 171, us' 172, us' 173, us' 174, us' 175, us' 176, us' 177, us' 178, us' 179, us' 180, us' 181, us' 182, us' 183, us' 184, us' 185, us' 186, us' 187, us' 188, us' 189, us' 190, us' 191, us' 192, us' 193, us' 194, us' 195, us' 196, us' 197, us' 198, us' 199, us' 200, us' 201, us' 202, us' 203, us' 204, us' 205, us' 206, us' 207, us' 208, us' 209, us' 210, us' 211, us' 212, us' 213, us' 214, us' 215, us' 216, us' 217, us' 218] = _
                rw [t2, t3]
              rw [el] at ha'
              subst ha'
              clear hus t2 t3 el hf' hs' hd'
              have HW := Lib.hid hW
              clear hW
              go_wp2
              exact bodyPost_ret (v := .tuple #[.agg zeroM, .int .i64 (cc : Int)]) (ret_msg rfl _ _ R zeroM _ rfl rfl rfl HW.out.2) rfl (mGetEnd_err HGet.out (hgr.bl.trans (HW.out.1.below (fun k hk e => by omega) hgr.bl.size)))
          · have d1 : decide ((j : Int) < (nn : Int)) = false := decide_eq_false (by omega)
            have c0 : wr.cell? ⟨T, 0, none⟩ = some (.pointer (some ⟨Q, 0, none⟩)) := by rw [HGA.out.tk.tb.cell]; rfl
            have c1 : wr.cell? ⟨T, 1, none⟩ = some (.int .i64 (cc : Int)) := by rw [HGA.out.tk.tb.cell]; rfl
            have hz : ((cc : Int) == 0) = false := by simp; omega
            have hz2 : ((cc : Int) != 0) = true := by simp; omega
            have HGet := Lib.hid (show getM l = (Mg.zero, cc) from MsgMath.getM_fault (show gMsg l = tag (⟨3, nf, no, nt, ni, nl, nc, ns, false, [], [], []⟩ : Mg) (.error cc) from (MsgMath.msg_head HByte.out (by omega) HT47.out HT49.out HT51.out).trans (MsgMath.body_3 HT53.out HT55.out HT57.out HT59.out HT61.out (show thru (gEnts nn) (MsgMath.manyS nn (.ok r8 : St)) = tag [] (.error cc) from by rw [HMany.out]; exact HTH.out))))
            go_upto_region 50 with fail
            clear c0 c1
            have hgr := HGA.out
            have h1 := hgr.rl
            have h2 := hgr.rq
            have h3 := hgr.tk.qt
            refine region_by [(213, .is (.agg zeroM)), (214, .is (.pointer (some ⟨T, 0, none⟩))), (215, .is (.pointer (some ⟨T, 0, none⟩))), (216, .is (.pointer (some ⟨T, 1, none⟩))), (217, .is (.int .i64 (cc : Int))), (3, .is (.int .i64 (cc : Int)))] [2, 3] (fun W => OnlyS (fun k => k = R) wr W ∧ Blk W R 27 zeroM) (by kernel_rfl) (by kernel_rfl) (by kernel_rfl) (by kernel_rfl) (by kernel_rfl) ⟨(OnlyS.refl _ _).drew, hgr.br.keep ((Below.refl _ _).drew)⟩ ?_ ?_
            · refine ⟨?c0, ?c1, ?c2, ?c3, ?c4, ?c5, ?c6, trivial⟩
              case c0 => exact ask_exec (guard_none rfl) (.agg zeroM) rfl rfl (by intro k hk; cases hk; rfl) (fun W hW => by kernel_rfl)
              case c1 => exact ask_copy (guard_none rfl) (.tmp 4) (.inl rfl) (by intro k hk; cases hk; rfl)
              case c2 => exact ask_exec (guard_none rfl) (.pointer (some ⟨T, 0, none⟩)) rfl rfl (by intro k hk; cases hk; rfl) (fun W hW => by kernel_rfl)
              case c3 => exact ask_field (guard_none rfl) _ (.tmp 215) 1 (.pointer (some ⟨T, 0, none⟩)) (.pointer (some ⟨T, 1, none⟩)) rfl rfl (by intro k hk; cases hk; rfl) (fun W => by kernel_rfl)
              case c4 => exact ask_load (guard_none rfl) _ (.tmp 216) (.pointer (some ⟨T, 1, none⟩)) (.int .i64 (cc : Int)) rfl rfl (by intro k hk; cases hk; rfl) (fun W hW => load_err W _ _ (by rw [(hgr.tk.tb.onlyS hW.1 (by omega)).cell]; rfl))
              case c5 => exact ask_store_same (guard_none rfl) 27 (.tmp 2) (.tmp 213) R zeroM rfl rfl rfl rfl (facts_is (by simp [isFact])) (fun W hW => ⟨hW.2.stores 27 _ (by kernel_rfl) rfl (by kernel_rfl), hW.1.trans (setRow_onlyS W R zeroM), hW.2.row _⟩)
              case c6 => exact ask_copy (guard_none rfl) (.tmp 217) (.inr rfl) (by intro k hk; cases hk; rfl)
            · intro a' W hW hd' hs' hf'
              have t2 : a'.tmps.getD 2 undef = .pointer (some ⟨R, 0, none⟩) := hf' 2 rfl
              have t3 : a'.tmps.getD 3 undef = .int .i64 (cc : Int) := hf' 3 rfl
              obtain ⟨us', hus, ha'⟩ := act_open 219 a' hs' hd'
              rw [← hus] at t2 t3
              have el : ((List.range 219).map us').toArray = #[us' 0, us' 1, .pointer (some ⟨R, 0, none⟩), .int .i64 (cc : Int), us' 4, us' 5, us' 6, us' 7, us' 8, us' 9, us' 10, us' 11, us' 12, us' 13, us' 14, us' 15, us' 16, us' 17, us' 18, us' 19, us' 20, us' 21, us' 22, us' 23, us' 24, us' 25, us' 26, us' 27, us' 28, us' 29, us' 30, us' 31, us' 32, us' 33, us' 34, us' 35, us' 36, us' 37, us' 38, us' 39, us' 40, us' 41, us' 42, us' 43, us' 44, us' 45, us' 46, us' 47, us' 48, us' 49, us' 50, us' 51, us' 52, us' 53, us' 54, us' 55, us' 56, us' 57, us' 58, us' 59, us' 60, us' 61, us' 62, us' 63, us' 64, us' 65, us' 66, us' 67, us' 68, us' 69, us' 70, us' 71, us' 72, us' 73, us' 74, us' 75, us' 76, us' 77, us' 78, us' 79, us' 80, us' 81, us' 82, us' 83, us' 84, us' 85, us' 86, us' 87, us' 88, us' 89, us' 90, us' 91, us' 92, us' 93, us' 94, us' 95, us' 96, us' 97, us' 98, us' 99, us' 100, us' 101, us' 102, us' 103, us' 104, us' 105, us' 106, us' 107, us' 108, us' 109, us' 110, us' 111, us' 112, us' 113, us' 114, us' 115, us' 116, us' 117, us' 118, us' 119, us' 120, us' 121, us' 122, us' 123, us' 124, us' 125, us' 126, us' 127, us' 128, us' 129, us' 130, us' 131, us' 132, us' 133, us' 134, us' 135, us' 136, us' 137, us' 138, us' 139, us' 140, us' 141, us' 142, us' 143, us' 144, us' 145, us' 146, us' 147, us' 148, us' 149, us' 150, us' 151, us' 152, us' 153, us' 154, us' 155, us' 156, us' 157, us' 158, us' 159, us' 160, us' 161, us' 162, us' 163, us' 164, us' 165, us' 166, us' 167, us' 168, us' 169, us' 170, us' 171, us' 172, us' 173, us' 174, us' 175, us' 176, us' 177, us' 178, us' 179, us' 180, us' 181, us' 182, us' 183, us' 184, us' 185, us' 186, us' 187, us' 188, us' 189, us' 190, us' 191, us' 192, us' 193, us' 194, us' 195, us' 196, us' 197, us' 198, us' 199, us' 200, us' 201, us' 202, us' 203, us' 204, us' 205, us' 206, us' 207, us' 208, us' 209, us' 210, us' 211, us' 212, us' 213, us' 214, us' 215, us' 216, us' 217, us' 218] := by
                show #[us' 0, us' 1, us' 2, us' 3, us' 4, us' 5, us' 6, us' 7, us' 8, us' 9, us' 10, us' 11, us' 12, us' 13, us' 14, us' 15, us' 16, us' 17, us' 18, us' 19, us' 20, us' 21, us' 22, us' 23, us' 24, us' 25, us' 26, us' 27, us' 28, us' 29, us' 30, us' 31, us' 32, us' 33, us' 34, us' 35, us' 36, us' 37, us' 38, us' 39, us' 40, us' 41, us' 42, us' 43, us' 44, us' 45, us' 46, us' 47, us' 48, us' 49, us' 50, us' 51, us' 52, us' 53, us' 54, us' 55, us' 56, us' 57, us' 58, us' 59, us' 60, us' 61, us' 62, us' 63, us' 64, us' 65, us' 66, us' 67, us' 68, us' 69, us' 70, us' 71, us' 72, us' 73, us' 74, us' 75, us' 76, us' 77, us' 78, us' 79, us' 80, us' 81, us' 82, us' 83, us' 84, us' 85, us' 86, us' 87, us' 88, us' 89, us' 90, us' 91, us' 92, us' 93, us' 94, us' 95, us' 96, us' 97, us' 98, us' 99, us' 100, us' 101, us' 102, us' 103, us' 104, us' 105, us' 106, us' 107, us' 108, us' 109, us' 110, us' 111, us' 112, us' 113, us' 114, us' 115, us' 116, us' 117, us' 118, us' 119, us' 120, us' 121, us' 122, us' 123, us' 124, us' 125, us' 126, us' 127, us' 128, us' 129, us' 130, us' 131, us' 132, us' 133, us' 134, us' 135, us' 136, us' 137, us' 138, us' 139, us' 140, us' 141, us' 142, us' 143, us' 144, us' 145, us' 146, us' 147, us' 148, us' 149, us' 150, us' 151, us' 152, us' 153, us' 154, us' 155, us' 156, us' 157, us' 158, us' 159, us' 160, us' 161, us' 162, us' 163, us' 164, us' 165, us' 166, us' 167, us' 168, us' 169, us' 170, us' 171, us' 172, us' 173, us' 174, us' 175, us' 176, us' 177, us' 178, us' 179, us' 180, us' 181, us' 182, us' 183, us' 184, us' 185, us' 186, us' 187, us' 188, us' 189, us' 190, us' 191, us' 192, us' 193, us' 194, us' 195, us' 196, us' 197, us' 198, us' 199, us' 200, us' 201, us' 202, us' 203, us' 204, us' 205, us' 206, us' 207, us' 208, us' 209, us' 210, us' 211, us' 212, us' 213, us' 214, us' 215, us' 216, us' 217, us' 218] = _
                rw [t2, t3]
              rw [el] at ha'
              subst ha'
              clear hus t2 t3 el hf' hs' hd'
              have HW := Lib.hid hW
              clear hW
              go_wp2
              exact bodyPost_ret (v := .tuple #[.agg zeroM, .int .i64 (cc : Int)]) (ret_msg rfl _ _ R zeroM _ rfl rfl rfl HW.out.2) rfl (mGetEnd_err HGet.out (hgr.bl.trans (HW.out.1.below (fun k hk e => by omega) hgr.bl.size)))
        | ok r1 =>
          have c0 : wr.cell? ⟨T, 0, none⟩ = some (.pointer (some ⟨Q, 0, none⟩)) := by rw [HGA.out.tk.tb.cell]; rfl
          have c1 : wr.cell? ⟨T, 1, none⟩ = some (.int .i64 0) := by rw [HGA.out.tk.tb.cell]; rfl
          by_cases hlt : j < nn
          · have d1 : decide ((j : Int) < (nn : Int)) = true := decide_eq_true (by omega)
            have hnj : nn - j = (nn - j - 1) + 1 := by omega
            have hzl := HGA.out.bz.lt
            have hqt := HGA.out.tk.qt
            have htz := HGA.out.tz
            have hrq2 := HGA.out.rq
            cases hgt : gText 128 r1 with
            | error ct =>
              have hct := gText_err hgt
              have HRaw := Lib.hid (refRaw_bad 128 (by decide) (HGA.out.tk.rd r1 rfl) hgt)
              have HGt := Lib.hid hgt
              have hz5 : ((ct : Int) != 0) = true := by simp; omega
              clear hgt
              go_wp2_with fail
              refine HRaw.out.mono ?_
              rintro e wa ⟨vx, rfl, hrx, hoq⟩
              have HOq := Lib.hid hoq
              have HTa := Lib.hid (HGA.out.tk.tb.onlyR hoq (by omega))
              clear c0 c1 HRaw hrx hoq
              go_upto_region 47 with (refine wpList_store_fld rfl 30 (.tmp 121) (.tmp 119) rfl T 1 (.int .i64 (ct : Int)) rfl rfl 67 #[.pointer (some ⟨Q, 0, none⟩), .int .i64 0] #[.pointer (some ⟨Q, 0, none⟩), .int .i64 (ct : Int)] HTa.out (by simp) rfl (by kernel_rfl) rfl ?_; intro wk hb ho; (have HGk := Lib.hid (HGA.out.fail HOq.out (show 2 ≤ ct ∧ ct ≤ 5 by omega) hb ho)); clear hb ho)
              clear hz5
              have c0 : wk.cell? ⟨T, 0, none⟩ = some (.pointer (some ⟨Q, 0, none⟩)) := by rw [HGk.out.tk.tb.cell]; rfl
              have c1 : wk.cell? ⟨T, 1, none⟩ = some (.int .i64 (ct : Int)) := by rw [HGk.out.tk.tb.cell]; rfl
              have hz : ((ct : Int) == 0) = false := by simp; omega
              have hz2 : ((ct : Int) != 0) = true := by simp; omega
              have HGet := Lib.hid (show getM l = (Mg.zero, ct) from MsgMath.getM_fault (show gMsg l = tag (⟨3, nf, no, nt, ni, nl, nc, ns, false, [], [], []⟩ : Mg) (.error ct) from (MsgMath.msg_head HByte.out (by omega) HT47.out HT49.out HT51.out).trans (MsgMath.body_3 HT53.out HT55.out HT57.out HT59.out HT61.out (show thru (gEnts nn) (MsgMath.manyS nn (.ok r8 : St)) = tag [] (.error ct) from by rw [HMany.out, HTH.out, hnj]; exact MsgMath.moreE_text HGt.out))))
              go_upto_region 50 with fail
              clear c0 c1
              have hgr := HGk.out
              have h1 := hgr.rl
              have h2 := hgr.rq
              have h3 := hgr.tk.qt
              refine region_by [(213, .is (.agg zeroM)), (214, .is (.pointer (some ⟨T, 0, none⟩))), (215, .is (.pointer (some ⟨T, 0, none⟩))), (216, .is (.pointer (some ⟨T, 1, none⟩))), (217, .is (.int .i64 (ct : Int))), (3, .is (.int .i64 (ct : Int)))] [2, 3] (fun W => OnlyS (fun k => k = R) wk W ∧ Blk W R 27 zeroM) (by kernel_rfl) (by kernel_rfl) (by kernel_rfl) (by kernel_rfl) (by kernel_rfl) ⟨(OnlyS.refl _ _).drew, hgr.br.keep ((Below.refl _ _).drew)⟩ ?_ ?_
              · refine ⟨?c0, ?c1, ?c2, ?c3, ?c4, ?c5, ?c6, trivial⟩
                case c0 => exact ask_exec (guard_none rfl) (.agg zeroM) rfl rfl (by intro k hk; cases hk; rfl) (fun W hW => by kernel_rfl)
                case c1 => exact ask_copy (guard_none rfl) (.tmp 4) (.inl rfl) (by intro k hk; cases hk; rfl)
                case c2 => exact ask_exec (guard_none rfl) (.pointer (some ⟨T, 0, none⟩)) rfl rfl (by intro k hk; cases hk; rfl) (fun W hW => by kernel_rfl)
                case c3 => exact ask_field (guard_none rfl) _ (.tmp 215) 1 (.pointer (some ⟨T, 0, none⟩)) (.pointer (some ⟨T, 1, none⟩)) rfl rfl (by intro k hk; cases hk; rfl) (fun W => by kernel_rfl)
                case c4 => exact ask_load (guard_none rfl) _ (.tmp 216) (.pointer (some ⟨T, 1, none⟩)) (.int .i64 (ct : Int)) rfl rfl (by intro k hk; cases hk; rfl) (fun W hW => load_err W _ _ (by rw [(hgr.tk.tb.onlyS hW.1 (by omega)).cell]; rfl))
                case c5 => exact ask_store_same (guard_none rfl) 27 (.tmp 2) (.tmp 213) R zeroM rfl rfl rfl rfl (facts_is (by simp [isFact])) (fun W hW => ⟨hW.2.stores 27 _ (by kernel_rfl) rfl (by kernel_rfl), hW.1.trans (setRow_onlyS W R zeroM), hW.2.row _⟩)
                case c6 => exact ask_copy (guard_none rfl) (.tmp 217) (.inr rfl) (by intro k hk; cases hk; rfl)
              · intro a' W hW hd' hs' hf'
                have t2 : a'.tmps.getD 2 undef = .pointer (some ⟨R, 0, none⟩) := hf' 2 rfl
                have t3 : a'.tmps.getD 3 undef = .int .i64 (ct : Int) := hf' 3 rfl
                obtain ⟨us', hus, ha'⟩ := act_open 219 a' hs' hd'
                rw [← hus] at t2 t3
                have el : ((List.range 219).map us').toArray = #[us' 0, us' 1, .pointer (some ⟨R, 0, none⟩), .int .i64 (ct : Int), us' 4, us' 5, us' 6, us' 7, us' 8, us' 9, us' 10, us' 11, us' 12, us' 13, us' 14, us' 15, us' 16, us' 17, us' 18, us' 19, us' 20, us' 21, us' 22, us' 23, us' 24, us' 25, us' 26, us' 27, us' 28, us' 29, us' 30, us' 31, us' 32, us' 33, us' 34, us' 35, us' 36, us' 37, us' 38, us' 39, us' 40, us' 41, us' 42, us' 43, us' 44, us' 45, us' 46, us' 47, us' 48, us' 49, us' 50, us' 51, us' 52, us' 53, us' 54, us' 55, us' 56, us' 57, us' 58, us' 59, us' 60, us' 61, us' 62, us' 63, us' 64, us' 65, us' 66, us' 67, us' 68, us' 69, us' 70, us' 71, us' 72, us' 73, us' 74, us' 75, us' 76, us' 77, us' 78, us' 79, us' 80, us' 81, us' 82, us' 83, us' 84, us' 85, us' 86, us' 87, us' 88, us' 89, us' 90, us' 91, us' 92, us' 93, us' 94, us' 95, us' 96, us' 97, us' 98, us' 99, us' 100, us' 101, us' 102, us' 103, us' 104, us' 105, us' 106, us' 107, us' 108, us' 109, us' 110, us' 111, us' 112, us' 113, us' 114, us' 115, us' 116, us' 117, us' 118, us' 119, us' 120, us' 121, us' 122, us' 123, us' 124, us' 125, us' 126, us' 127, us' 128, us' 129, us' 130, us' 131, us' 132, us' 133, us' 134, us' 135, us' 136, us' 137, us' 138, us' 139, us' 140, us' 141, us' 142, us' 143, us' 144, us' 145, us' 146, us' 147, us' 148, us' 149, us' 150, us' 151, us' 152, us' 153, us' 154, us' 155, us' 156, us' 157, us' 158, us' 159, us' 160, us' 161, us' 162, us' 163, us' 164, us' 165, us' 166, us' 167, us' 168, us' 169, us' 170, us' 171, us' 172, us' 173, us' 174, us' 175, us' 176, us' 177, us' 178, us' 179, us' 180, us' 181, us' 182, us' 183, us' 184, us' 185, us' 186, us' 187, us' 188, us' 189, us' 190, us' 191, us' 192, us' 193, us' 194, us' 195, us' 196, us' 197, us' 198, us' 199, us' 200, us' 201, us' 202, us' 203, us' 204, us' 205, us' 206, us' 207, us' 208, us' 209, us' 210, us' 211, us' 212, us' 213, us' 214, us' 215, us' 216, us' 217, us' 218] := by
                  show #[us' 0, us' 1, us' 2, us' 3, us' 4, us' 5, us' 6, us' 7, us' 8, us' 9, us' 10, us' 11, us' 12, us' 13, us' 14, us' 15, us' 16, us' 17, us' 18, us' 19, us' 20, us' 21, us' 22, us' 23, us' 24, us' 25, us' 26, us' 27, us' 28, us' 29, us' 30, us' 31, us' 32, us' 33, us' 34, us' 35, us' 36, us' 37, us' 38, us' 39, us' 40, us' 41, us' 42, us' 43, us' 44, us' 45, us' 46, us' 47, us' 48, us' 49, us' 50, us' 51, us' 52, us' 53, us' 54, us' 55, us' 56, us' 57, us' 58, us' 59, us' 60, us' 61, us' 62, us' 63, us' 64, us' 65, us' 66, us' 67, us' 68, us' 69, us' 70, us' 71, us' 72, us' 73, us' 74, us' 75, us' 76, us' 77, us' 78, us' 79, us' 80, us' 81, us' 82, us' 83, us' 84, us' 85, us' 86, us' 87, us' 88, us' 89, us' 90, us' 91, us' 92, us' 93, us' 94, us' 95, us' 96, us' 97, us' 98, us' 99, us' 100, us' 101, us' 102, us' 103, us' 104, us' 105, us' 106, us' 107, us' 108, us' 109, us' 110, us' 111, us' 112, us' 113, us' 114, us' 115, us' 116, us' 117, us' 118, us' 119, us' 120, us' 121, us' 122, us' 123, us' 124, us' 125, us' 126, us' 127, us' 128, us' 129, us' 130, us' 131, us' 132, us' 133, us' 134, us' 135, us' 136, us' 137, us' 138, us' 139, us' 140, us' 141, us' 142, us' 143, us' 144, us' 145, us' 146, us' 147, us' 148, us' 149, us' 150, us' 151, us' 152, us' 153, us' 154, us' 155, us' 156, us' 157, us' 158, us' 159, us' 160, us' 161, us' 162, us' 163, us' 164, us' 165, us' 166, us' 167, us' 168, us' 169, us' 170, us' 171, us' 172, us' 173, us' 174, us' 175, us' 176, us' 177, us' 178, us' 179, us' 180, us' 181, us' 182, us' 183, us' 184, us' 185, us' 186, us' 187, us' 188, us' 189, us' 190, us' 191, us' 192, us' 193, us' 194, us' 195, us' 196, us' 197, us' 198, us' 199, us' 200, us' 201, us' 202, us' 203, us' 204, us' 205, us' 206, us' 207, us' 208, us' 209, us' 210, us' 211, us' 212, us' 213, us' 214, us' 215, us' 216, us' 217, us' 218] = _
                  rw [t2, t3]
                rw [el] at ha'
                subst ha'
                clear hus t2 t3 el hf' hs' hd'
                have HW := Lib.hid hW
                clear hW
                go_wp2
                exact bodyPost_ret (v := .tuple #[.agg zeroM, .int .i64 (ct : Int)]) (ret_msg rfl _ _ R zeroM _ rfl rfl rfl HW.out.2) rfl (mGetEnd_err HGet.out (hgr.bl.trans (HW.out.1.below (fun k hk e => by omega) hgr.bl.size)))
            | ok pt =>
              obtain ⟨x1, q1⟩ := pt
              have HRaw := Lib.hid (refRaw_ok 128 (by decide) (HGA.out.tk.rd r1 rfl) hgt)
              have hx128 := (gText_back hgt).1
              have HGt := Lib.hid hgt
              clear hgt
              go_wp2_with fail
              refine HRaw.out.mono ?_
              rintro e wa ⟨vx, rfl, hrx, hra, hoq⟩
              obtain ⟨xa, xc, rfl, hxc⟩ := row_cap hrx
              have HGa := Lib.hid (HGA.out.read hoq hra)
              have hos := OnlyS.of_only (S := fun k => k = Q) hoq rfl
              have HERa := Lib.hid (HER.out.only hos (fun k hk e => by omega))
              have HEMa := Lib.hid (HEM.out.only hos (fun k hk e => by omega))
              have hza : Z < wa.heap.size := Nat.lt_of_lt_of_le hzl hoq.size
              rcases hgr : getR x1 with ⟨en, gc⟩
              have HGet1 := Lib.hid (refget_is hgr hrx.bys (by omega) hxc)
              have HGr := Lib.hid hgr
              clear c0 c1 HRaw hrx hra hoq hos hgr
              go_wp2_with fail
              refine HGet1.out.mono ?_
              rintro e wb ⟨ga, gca, gb, gcb, rfl, hmi, hbb⟩
              have HGb := Lib.hid (HGa.out.below hbb)
              have HERb := Lib.hid (HERa.out.below hbb)
              have HEMb := Lib.hid (HEMa.out.below hbb)
              have HMb := Lib.hid (hmi.low (show Z + 1 ≤ wa.heap.size by omega))
              have hzb : Z < wb.heap.size := Nat.lt_of_lt_of_le hza hbb.size
              clear hmi hbb HGet1
              by_cases hgz : gc = 0
              · subst hgz
                go_wp2_with (first
                  | (refine wpList_store_all rfl 42 (.tmp 13) (.tmp 125) rfl wb.heap.size (entC en ga gca gb gcb) rfl rfl 42 zeroC (Blk.new wb _ _) (by kernel_rfl) rfl (by simp [entC, Value.oneCell']) ?_; intro wc hb ho; (have hbc : Below wb.heap.size wb wc := ((Below.refl wb.heap.size wb).alloc (Nat.le_refl _) _).trans (ho.below (fun k hk e => by omega) (by simp))); (have HEc := Lib.hid hb); (have HGc := Lib.hid (HGb.out.below hbc)); (have HERc := Lib.hid (HERb.out.below hbc)); (have HEMc := Lib.hid (HEMb.out.below hbc)); (have HMc := Lib.hid (HMb.out.below hbc)); clear hb ho hbc HGb HERb HEMb HMb)
                  | (refine wpList_store_fld rfl 30 (.tmp 130) (.tmp 128) rfl T 1 (.int .i64 0) rfl rfl 67 #[.pointer (some ⟨Q, 0, none⟩), .int .i64 0] #[.pointer (some ⟨Q, 0, none⟩), .int .i64 0] HGc.out.tk.tb (by simp) rfl (by kernel_rfl) rfl ?_; intro wd hb ho; (have HGd := Lib.hid (HGc.out.code (st' := .ok q1) (fun r e => by cases e; exact HGc.out.tk.rd _ rfl) (fun d e => by cases e) hb ho)); (have HEd := Lib.hid (HEc.out.onlyS ho (by omega))); (have HERd := Lib.hid (HERc.out.only ho (fun k hk e => by omega))); (have HEMd := Lib.hid (HEMc.out.only ho (fun k hk e => by omega))); (have HMd := Lib.hid ((EMine.only (us := [⟨en, ga, gca, gb, gcb⟩]) (fun u hu => by rw [List.mem_singleton.1 hu]; exact HMc.out) ho (fun k hk e => by omega)) ⟨en, ga, gca, gb, gcb⟩ (List.mem_singleton.2 rfl))); (have c9 : wd.cell? ⟨Z, 9, none⟩ = some (.slice ea us.length ec) := by rw [HGd.out.bz.cell]; rfl); clear hb ho HGc HEc HERc HEMc HMc)
                  | (refine wpList_load_by rfl 42 (.tmp 13) rfl _ _ rfl (HEd.out.loads 42 _ Try.underlying42 rfl rfl) ?_)
                  | (refine wpList_build_ent1 rfl (.tmp 133) rfl (entC en ga gca gb gcb) rfl rfl ?_; intro we hb hbl; (have HGe := Lib.hid (HGd.out.below hbl)); (have HERe := Lib.hid (HERd.out.below hbl)); (have HEMe := Lib.hid (EMine.snoc (u := ⟨en, ga, gca, gb, gcb⟩) (HEMd.out.below hbl) (HMd.out.below hbl))); (have HAe := Lib.hid (append_ent (Nat.le_trans (show Z + 1 ≤ wd.heap.size from HGd.out.bz.lt) hbl.size) HERe.out (by have := HUL.out; omega) ⟨en, ga, gca, gb, gcb⟩ wd.heap.size hb)); clear hb hbl c9 HGd HERd HEMd HMd HEd)
                  | (at_builtin; refine wpList_append_by rfl _ _ 23 rfl _ _ rfl rfl _ HAe.out ?_; rintro v6 wf ⟨hr, hgr⟩; obtain ⟨fa, fc, rfl⟩ : ∃ a c, v6 = .slice a (us.length + 1) c := (by obtain ⟨a, c, e⟩ := hr.form; exact ⟨a, c, by rw [e, List.length_append]; rfl⟩); (have hgo : OnlyS (fun k => Z + 1 ≤ k) we wf := ⟨hgr.os, hgr.tape, hgr.output, hgr.size, fun k hk hs => hgr.block k hk (fun e => hs (World.ownsRow.lt HERe.out k e.symm).1)⟩); (have HGf := Lib.hid (HGe.out.far hgo (fun k hk e => by omega))); (have HERf := Lib.hid hr); (have HEMf := Lib.hid (HEMe.out.grown HERe.out hgr)); clear hr hgr hgo HGe HERe HEMe HAe)
                  | (refine wpList_store_fld rfl 23 (.tmp 136) (.tmp 135) rfl Z 9 (.slice fa (us.length + 1) fc) rfl rfl 27 #[.int .i64 3, .int .u64 (nf : Int), .int .u64 (no : Int), .int .u64 (nt : Int), .int .u64 (ni : Int), .int .u64 (nl : Int), .int .u64 (nc : Int), .int .u64 (ns : Int), .bool false, .slice ea us.length ec, .slice none 0 0, .slice none 0 0] #[.int .i64 3, .int .u64 (nf : Int), .int .u64 (no : Int), .int .u64 (nt : Int), .int .u64 (ni : Int), .int .u64 (nl : Int), .int .u64 (nc : Int), .int .u64 (ns : Int), .bool false, .slice fa (us.length + 1) fc, .slice none 0 0, .slice none 0 0] HGf.out.bz (by simp) rfl (by kernel_rfl) rfl ?_; intro wg hb ho; (have HGg := Lib.hid (HGf.out.set hb ho)); (have HERg := Lib.hid (HERf.out.only ho (fun k hk e => by omega))); (have HEMg := Lib.hid (HEMf.out.only ho (fun k hk e => by omega))); clear hb ho HGf HERf HEMf))
                go_roundw
                case rel => exact ⟨j + 1, us ++ [⟨en, ga, gca, gb, gcb⟩], fa, fc, .ok q1, by go_num, by omega, by rw [List.length_append, HUL.out]; rfl, by rw [List.length_append]; exact HGg.out, by rw [List.length_append]; exact HERg.out, HEMg.out, by rw [HTH.out, hnj, show nn - (j + 1) = nn - j - 1 by omega]; have e := MsgMath.moreE_next (k := nn - j - 1) (es := us.map EE.e) HGt.out (by rw [HGr.out]); rw [HGr.out] at e; simpa using e⟩
                case measure => simp [intOf]; omega
              · have HGcb := Lib.hid (show 2 ≤ gc ∧ gc ≤ 5 from ent_code (by rw [HGr.out]; exact hgz) (by rw [HGr.out]))
                have HGne := Lib.hid hgz
                clear hgz
                go_wp2_with (first
                  | (refine wpList_store_all rfl 42 (.tmp 13) (.tmp 125) rfl wb.heap.size (entC en ga gca gb gcb) rfl rfl 42 zeroC (Blk.new wb _ _) (by kernel_rfl) rfl (by simp [entC, Value.oneCell']) ?_; intro wc hb ho; (have hbc : Below wb.heap.size wb wc := ((Below.refl wb.heap.size wb).alloc (Nat.le_refl _) _).trans (ho.below (fun k hk e => by omega) (by simp))); (have HEc := Lib.hid hb); (have HGc := Lib.hid (HGb.out.below hbc)); (have HERc := Lib.hid (HERb.out.below hbc)); (have HEMc := Lib.hid (HEMb.out.below hbc)); (have HMc := Lib.hid (HMb.out.below hbc)); clear hb ho hbc HGb HERb HEMb HMb)
                  | (refine wpList_store_fld rfl 30 (.tmp 130) (.tmp 128) rfl T 1 (.int .i64 (gc : Int)) rfl rfl 67 #[.pointer (some ⟨Q, 0, none⟩), .int .i64 0] #[.pointer (some ⟨Q, 0, none⟩), .int .i64 (gc : Int)] HGc.out.tk.tb (by simp) rfl (by kernel_rfl) rfl ?_; intro wd hb ho; (have HGd := Lib.hid (HGc.out.code (st' := .error gc) (fun r e => by cases e) (fun d e => by cases e; exact HGcb.out) hb ho)); (have HEd := Lib.hid (HEc.out.onlyS ho (by omega))); (have HERd := Lib.hid (HERc.out.only ho (fun k hk e => by omega))); (have HEMd := Lib.hid (HEMc.out.only ho (fun k hk e => by omega))); (have HMd := Lib.hid ((EMine.only (us := [⟨en, ga, gca, gb, gcb⟩]) (fun u hu => by rw [List.mem_singleton.1 hu]; exact HMc.out) ho (fun k hk e => by omega)) ⟨en, ga, gca, gb, gcb⟩ (List.mem_singleton.2 rfl))); (have c9 : wd.cell? ⟨Z, 9, none⟩ = some (.slice ea us.length ec) := by rw [HGd.out.bz.cell]; rfl); clear hb ho HGc HEc HERc HEMc HMc)
                  | (refine wpList_load_by rfl 42 (.tmp 13) rfl _ _ rfl (HEd.out.loads 42 _ Try.underlying42 rfl rfl) ?_)
                  | (refine wpList_build_ent1 rfl (.tmp 133) rfl (entC en ga gca gb gcb) rfl rfl ?_; intro we hb hbl; (have HGe := Lib.hid (HGd.out.below hbl)); (have HERe := Lib.hid (HERd.out.below hbl)); (have HEMe := Lib.hid (EMine.snoc (u := ⟨en, ga, gca, gb, gcb⟩) (HEMd.out.below hbl) (HMd.out.below hbl))); (have HAe := Lib.hid (append_ent (Nat.le_trans (show Z + 1 ≤ wd.heap.size from HGd.out.bz.lt) hbl.size) HERe.out (by have := HUL.out; omega) ⟨en, ga, gca, gb, gcb⟩ wd.heap.size hb)); clear hb hbl c9 HGd HERd HEMd HMd HEd)
                  | (at_builtin; refine wpList_append_by rfl _ _ 23 rfl _ _ rfl rfl _ HAe.out ?_; rintro v6 wf ⟨hr, hgr⟩; obtain ⟨fa, fc, rfl⟩ : ∃ a c, v6 = .slice a (us.length + 1) c := (by obtain ⟨a, c, e⟩ := hr.form; exact ⟨a, c, by rw [e, List.length_append]; rfl⟩); (have hgo : OnlyS (fun k => Z + 1 ≤ k) we wf := ⟨hgr.os, hgr.tape, hgr.output, hgr.size, fun k hk hs => hgr.block k hk (fun e => hs (World.ownsRow.lt HERe.out k e.symm).1)⟩); (have HGf := Lib.hid (HGe.out.far hgo (fun k hk e => by omega))); (have HERf := Lib.hid hr); (have HEMf := Lib.hid (HEMe.out.grown HERe.out hgr)); clear hr hgr hgo HGe HERe HEMe HAe)
                  | (refine wpList_store_fld rfl 23 (.tmp 136) (.tmp 135) rfl Z 9 (.slice fa (us.length + 1) fc) rfl rfl 27 #[.int .i64 3, .int .u64 (nf : Int), .int .u64 (no : Int), .int .u64 (nt : Int), .int .u64 (ni : Int), .int .u64 (nl : Int), .int .u64 (nc : Int), .int .u64 (ns : Int), .bool false, .slice ea us.length ec, .slice none 0 0, .slice none 0 0] #[.int .i64 3, .int .u64 (nf : Int), .int .u64 (no : Int), .int .u64 (nt : Int), .int .u64 (ni : Int), .int .u64 (nl : Int), .int .u64 (nc : Int), .int .u64 (ns : Int), .bool false, .slice fa (us.length + 1) fc, .slice none 0 0, .slice none 0 0] HGf.out.bz (by simp) rfl (by kernel_rfl) rfl ?_; intro wg hb ho; (have HGg := Lib.hid (HGf.out.set hb ho)); (have HERg := Lib.hid (HERf.out.only ho (fun k hk e => by omega))); (have HEMg := Lib.hid (HEMf.out.only ho (fun k hk e => by omega))); clear hb ho HGf HERf HEMf))
                go_roundw
                case rel => exact ⟨j + 1, us ++ [⟨en, ga, gca, gb, gcb⟩], fa, fc, .error gc, by go_num, by omega, by rw [List.length_append, HUL.out]; rfl, by rw [List.length_append]; exact HGg.out, by rw [List.length_append]; exact HERg.out, HEMg.out, by rw [HTH.out, hnj, show nn - (j + 1) = nn - j - 1 by omega]; have e := MsgMath.moreE_ent (k := nn - j - 1) (es := us.map EE.e) HGt.out (by rw [HGr.out]; exact HGne.out); rw [HGr.out] at e; exact e⟩
                case measure => simp [intOf]; omega
          · obtain rfl : j = nn := by omega
            have d1 : decide ((j : Int) < (j : Int)) = false := decide_eq_false (by omega)
            obtain ⟨sq, hsq⟩ : ∃ s : St, s = .ok r1 := ⟨_, rfl⟩
            have HT9 := Lib.hid (show thru (gEnts j) (MsgMath.manyS j (.ok r8 : St)) = tag (us.map EE.e) sq by rw [HMany.out, HTH.out, Nat.sub_self, hsq]; exact MsgMath.moreE_end _ _)
            rw [← hsq] at HGA
            clear hsq c0 c1
            have c0 : wr.cell? ⟨T, 0, none⟩ = some (.pointer (some ⟨Q, 0, none⟩)) := by rw [HGA.out.tk.tb.cell]; rfl
            clear c0
            go_upto_region 47 with fail
            have HMsg := Lib.hid (show gMsg l = tag (⟨3, nf, no, nt, ni, nl, nc, ns, false, us.map EE.e, [], []⟩ : Mg) sq from (MsgMath.msg_head HByte.out (by omega) HT47.out HT49.out HT51.out).trans (MsgMath.body_3 HT53.out HT55.out HT57.out HT59.out HT61.out (HT9.out)))
            cases sq with
            | error cc =>
              have hcc := HGA.out.tk.er cc rfl
              have c0 : wr.cell? ⟨T, 0, none⟩ = some (.pointer (some ⟨Q, 0, none⟩)) := by rw [HGA.out.tk.tb.cell]; rfl
              have c1 : wr.cell? ⟨T, 1, none⟩ = some (.int .i64 (cc : Int)) := by rw [HGA.out.tk.tb.cell]; rfl
              have hz : ((cc : Int) == 0) = false := by simp; omega
              have hz2 : ((cc : Int) != 0) = true := by simp; omega
              have HGet := Lib.hid (show getM l = (Mg.zero, cc) from MsgMath.getM_fault HMsg.out)
              go_upto_region 50 with fail
              clear c0 c1
              have hgr := HGA.out
              have h1 := hgr.rl
              have h2 := hgr.rq
              have h3 := hgr.tk.qt
              refine region_by [(213, .is (.agg zeroM)), (214, .is (.pointer (some ⟨T, 0, none⟩))), (215, .is (.pointer (some ⟨T, 0, none⟩))), (216, .is (.pointer (some ⟨T, 1, none⟩))), (217, .is (.int .i64 (cc : Int))), (3, .is (.int .i64 (cc : Int)))] [2, 3] (fun W => OnlyS (fun k => k = R) wr W ∧ Blk W R 27 zeroM) (by kernel_rfl) (by kernel_rfl) (by kernel_rfl) (by kernel_rfl) (by kernel_rfl) ⟨(OnlyS.refl _ _).drew, hgr.br.keep ((Below.refl _ _).drew)⟩ ?_ ?_
              · refine ⟨?c0, ?c1, ?c2, ?c3, ?c4, ?c5, ?c6, trivial⟩
                case c0 => exact ask_exec (guard_none rfl) (.agg zeroM) rfl rfl (by intro k hk; cases hk; rfl) (fun W hW => by kernel_rfl)
                case c1 => exact ask_copy (guard_none rfl) (.tmp 4) (.inl rfl) (by intro k hk; cases hk; rfl)
                case c2 => exact ask_exec (guard_none rfl) (.pointer (some ⟨T, 0, none⟩)) rfl rfl (by intro k hk; cases hk; rfl) (fun W hW => by kernel_rfl)
                case c3 => exact ask_field (guard_none rfl) _ (.tmp 215) 1 (.pointer (some ⟨T, 0, none⟩)) (.pointer (some ⟨T, 1, none⟩)) rfl rfl (by intro k hk; cases hk; rfl) (fun W => by kernel_rfl)
                case c4 => exact ask_load (guard_none rfl) _ (.tmp 216) (.pointer (some ⟨T, 1, none⟩)) (.int .i64 (cc : Int)) rfl rfl (by intro k hk; cases hk; rfl) (fun W hW => load_err W _ _ (by rw [(hgr.tk.tb.onlyS hW.1 (by omega)).cell]; rfl))
                case c5 => exact ask_store_same (guard_none rfl) 27 (.tmp 2) (.tmp 213) R zeroM rfl rfl rfl rfl (facts_is (by simp [isFact])) (fun W hW => ⟨hW.2.stores 27 _ (by kernel_rfl) rfl (by kernel_rfl), hW.1.trans (setRow_onlyS W R zeroM), hW.2.row _⟩)
                case c6 => exact ask_copy (guard_none rfl) (.tmp 217) (.inr rfl) (by intro k hk; cases hk; rfl)
              · intro a' W hW hd' hs' hf'
                have t2 : a'.tmps.getD 2 undef = .pointer (some ⟨R, 0, none⟩) := hf' 2 rfl
                have t3 : a'.tmps.getD 3 undef = .int .i64 (cc : Int) := hf' 3 rfl
                obtain ⟨us', hus, ha'⟩ := act_open 219 a' hs' hd'
                rw [← hus] at t2 t3
                have el : ((List.range 219).map us').toArray = #[us' 0, us' 1, .pointer (some ⟨R, 0, none⟩), .int .i64 (cc : Int), us' 4, us' 5, us' 6, us' 7, us' 8, us' 9, us' 10, us' 11, us' 12, us' 13, us' 14, us' 15, us' 16, us' 17, us' 18, us' 19, us' 20, us' 21, us' 22, us' 23, us' 24, us' 25, us' 26, us' 27, us' 28, us' 29, us' 30, us' 31, us' 32, us' 33, us' 34, us' 35, us' 36, us' 37, us' 38, us' 39, us' 40, us' 41, us' 42, us' 43, us' 44, us' 45, us' 46, us' 47, us' 48, us' 49, us' 50, us' 51, us' 52, us' 53, us' 54, us' 55, us' 56, us' 57, us' 58, us' 59, us' 60, us' 61, us' 62, us' 63, us' 64, us' 65, us' 66, us' 67, us' 68, us' 69, us' 70, us' 71, us' 72, us' 73, us' 74, us' 75, us' 76, us' 77, us' 78, us' 79, us' 80, us' 81, us' 82, us' 83, us' 84, us' 85, us' 86, us' 87, us' 88, us' 89, us' 90, us' 91, us' 92, us' 93, us' 94, us' 95, us' 96, us' 97, us' 98, us' 99, us' 100, us' 101, us' 102, us' 103, us' 104, us' 105, us' 106, us' 107, us' 108, us' 109, us' 110, us' 111, us' 112, us' 113, us' 114, us' 115, us' 116, us' 117, us' 118, us' 119, us' 120, us' 121, us' 122, us' 123, us' 124, us' 125, us' 126, us' 127, us' 128, us' 129, us' 130, us' 131, us' 132, us' 133, us' 134, us' 135, us' 136, us' 137, us' 138, us' 139, us' 140, us' 141, us' 142, us' 143, us' 144, us' 145, us' 146, us' 147, us' 148, us' 149, us' 150, us' 151, us' 152, us' 153, us' 154, us' 155, us' 156, us' 157, us' 158, us' 159, us' 160, us' 161, us' 162, us' 163, us' 164, us' 165, us' 166, us' 167, us' 168, us' 169, us' 170, us' 171, us' 172, us' 173, us' 174, us' 175, us' 176, us' 177, us' 178, us' 179, us' 180, us' 181, us' 182, us' 183, us' 184, us' 185, us' 186, us' 187, us' 188, us' 189, us' 190, us' 191, us' 192, us' 193, us' 194, us' 195, us' 196, us' 197, us' 198, us' 199, us' 200, us' 201, us' 202, us' 203, us' 204, us' 205, us' 206, us' 207, us' 208, us' 209, us' 210, us' 211, us' 212, us' 213, us' 214, us' 215, us' 216, us' 217, us' 218] := by
                  show #[us' 0, us' 1, us' 2, us' 3, us' 4, us' 5, us' 6, us' 7, us' 8, us' 9, us' 10, us' 11, us' 12, us' 13, us' 14, us' 15, us' 16, us' 17, us' 18, us' 19, us' 20, us' 21, us' 22, us' 23, us' 24, us' 25, us' 26, us' 27, us' 28, us' 29, us' 30, us' 31, us' 32, us' 33, us' 34, us' 35, us' 36, us' 37, us' 38, us' 39, us' 40, us' 41, us' 42, us' 43, us' 44, us' 45, us' 46, us' 47, us' 48, us' 49, us' 50, us' 51, us' 52, us' 53, us' 54, us' 55, us' 56, us' 57, us' 58, us' 59, us' 60, us' 61, us' 62, us' 63, us' 64, us' 65, us' 66, us' 67, us' 68, us' 69, us' 70, us' 71, us' 72, us' 73, us' 74, us' 75, us' 76, us' 77, us' 78, us' 79, us' 80, us' 81, us' 82, us' 83, us' 84, us' 85, us' 86, us' 87, us' 88, us' 89, us' 90, us' 91, us' 92, us' 93, us' 94, us' 95, us' 96, us' 97, us' 98, us' 99, us' 100, us' 101, us' 102, us' 103, us' 104, us' 105, us' 106, us' 107, us' 108, us' 109, us' 110, us' 111, us' 112, us' 113, us' 114, us' 115, us' 116, us' 117, us' 118, us' 119, us' 120, us' 121, us' 122, us' 123, us' 124, us' 125, us' 126, us' 127, us' 128, us' 129, us' 130, us' 131, us' 132, us' 133, us' 134, us' 135, us' 136, us' 137, us' 138, us' 139, us' 140, us' 141, us' 142, us' 143, us' 144, us' 145, us' 146, us' 147, us' 148, us' 149, us' 150, us' 151, us' 152, us' 153, us' 154, us' 155, us' 156, us' 157, us' 158, us' 159, us' 160, us' 161, us' 162, us' 163, us' 164, us' 165, us' 166, us' 167, us' 168, us' 169, us' 170, us' 171, us' 172, us' 173, us' 174, us' 175, us' 176, us' 177, us' 178, us' 179, us' 180, us' 181, us' 182, us' 183, us' 184, us' 185, us' 186, us' 187, us' 188, us' 189, us' 190, us' 191, us' 192, us' 193, us' 194, us' 195, us' 196, us' 197, us' 198, us' 199, us' 200, us' 201, us' 202, us' 203, us' 204, us' 205, us' 206, us' 207, us' 208, us' 209, us' 210, us' 211, us' 212, us' 213, us' 214, us' 215, us' 216, us' 217, us' 218] = _
                  rw [t2, t3]
                rw [el] at ha'
                subst ha'
                clear hus t2 t3 el hf' hs' hd'
                have HW := Lib.hid hW
                clear hW
                go_wp2
                exact bodyPost_ret (v := .tuple #[.agg zeroM, .int .i64 (cc : Int)]) (ret_msg rfl _ _ R zeroM _ rfl rfl rfl HW.out.2) rfl (mGetEnd_err HGet.out (hgr.bl.trans (HW.out.1.below (fun k hk e => by omega) hgr.bl.size)))
            | ok rr =>
              have c0 : wr.cell? ⟨T, 0, none⟩ = some (.pointer (some ⟨Q, 0, none⟩)) := by rw [HGA.out.tk.tb.cell]; rfl
              have c1 : wr.cell? ⟨T, 1, none⟩ = some (.int .i64 0) := by rw [HGA.out.tk.tb.cell]; rfl
              have HEnd := Lib.hid (refreadEnd_any (HGA.out.tk.rd rr rfl))
              have HRead := Lib.hid (msg_read HMsg.out)
              by_cases hrr : rr = []
              · rw [if_pos hrr] at HEnd
                have HGet := Lib.hid (show getM l = ((⟨3, nf, no, nt, ni, nl, nc, ns, false, us.map EE.e, [], []⟩ : Mg), 0) by rw [MsgMath.getM_done HMsg.out, if_pos hrr])
                clear hrr
                go_wp2_with fail
                refine HEnd.out.mono ?_
                rintro e we ⟨rfl, hoe⟩
                have HOe := Lib.hid hoe
                have HTe := Lib.hid (HGA.out.tk.tb.onlyR hoe (by have := HGA.out.tk.qt; omega))
                have HZe := Lib.hid (HGA.out.bz.onlyR hoe (by have h1 := HGA.out.tk.qt; have h2 := HGA.out.tz; omega))
                have HRe := Lib.hid (HGA.out.br.onlyR hoe (by have := HGA.out.rq; omega))
                clear hoe c0 c1 HEnd
                have hne := HGA.out.tk.qt
                have hne2 := HGA.out.tz
                have hne3 := HGA.out.rq
                go_wp2_with (first
                  | (refine wpList_store_fld rfl 30 (.tmp 207) (.tmp 205) rfl T 1 (.int .i64 ((0 : Nat) : Int)) rfl rfl 67 _ #[.pointer (some ⟨Q, 0, none⟩), .int .i64 0] HTe.out (by simp) rfl (by kernel_rfl) rfl ?_; intro wf hb ho; (have c0 : wf.cell? ⟨T, 0, none⟩ = some (.pointer (some ⟨Q, 0, none⟩)) := by rw [hb.cell]; rfl); (have c1 : wf.cell? ⟨T, 1, none⟩ = some (.int .i64 0) := by rw [hb.cell]; rfl); (have HOf := Lib.hid ho); (have HZf := Lib.hid (HZe.out.onlyS ho (by omega))); (have HRf := Lib.hid (HRe.out.onlyS ho (by omega))); clear hb ho)
                  | (refine wpList_load_by rfl 27 (.tmp 7) rfl _ _ rfl (HZf.out.loads 27 _ Try.underlying27 rfl rfl) ?_)
                  | (refine wpList_store_all rfl 27 (.tmp 2) (.tmp 218) rfl R #[.int .i64 3, .int .u64 (nf : Int), .int .u64 (no : Int), .int .u64 (nt : Int), .int .u64 (ni : Int), .int .u64 (nl : Int), .int .u64 (nc : Int), .int .u64 (ns : Int), .bool false, .slice ea us.length ec, .slice none 0 0, .slice none 0 0] rfl rfl 27 zeroM HRf.out (by kernel_rfl) rfl (by simp [Value.oneCell']) ?_; intro wh hb ho; (have HBh := Lib.hid hb); (have HOh := Lib.hid ho); clear hb ho))
                have hos : OnlyS (fun k => k = Q ∨ k = T ∨ k = R) wr wh := ((OnlyS.of_only HOe.out (.inl rfl)).trans (HOf.out.mono fun _ _ e => .inr (.inl e))).trans (HOh.out.mono fun _ _ e => .inr (.inr e))
                have hbl : Below w.heap.size w wh := HGA.out.bl.trans (hos.below (fun k hk e => by have h1 := HGA.out.rl; rcases e with e | e | e <;> omega) HGA.out.bl.size)
                refine bodyPost_ret (v := .tuple #[.agg #[.int .i64 3, .int .u64 (nf : Int), .int .u64 (no : Int), .int .u64 (nt : Int), .int .u64 (ni : Int), .int .u64 (nl : Int), .int .u64 (nc : Int), .int .u64 (ns : Int), .bool false, .slice ea us.length ec, .slice none 0 0, .slice none 0 0], .int .i64 0]) (ret_msg rfl _ _ R #[.int .i64 3, .int .u64 (nf : Int), .int .u64 (no : Int), .int .u64 (nt : Int), .int .u64 (ni : Int), .int .u64 (nl : Int), .int .u64 (nc : Int), .int .u64 (ns : Int), .bool false, .slice ea us.length ec, .slice none 0 0, .slice none 0 0] _ rfl rfl rfl HBh.out) rfl ?_
                unfold MGetEnd
                rw [HGet.out]
                exact ⟨_, _, _, us, rfl, ⟨HRead.out.1, (HER.out.only hos (fun k hk e => by have h1 := HGA.out.tk.qt; have h2 := HGA.out.tz; have h3 := HGA.out.rq; rcases e with e | e | e <;> omega)).low (by have := HGA.out.rl; have h1 := HGA.out.tk.qt; have h2 := HGA.out.tz; have h3 := HGA.out.rq; omega), (HEM.out.only hos (fun k hk e => by have h1 := HGA.out.tk.qt; have h2 := HGA.out.tz; have h3 := HGA.out.rq; rcases e with e | e | e <;> omega)).low (by have := HGA.out.rl; have h1 := HGA.out.tk.qt; have h2 := HGA.out.tz; have h3 := HGA.out.rq; omega), rfl, World.ownsRow_nil _ _ _ _, World.ownsRow_nil _ _ _ _, by have := HUL.out; omega, by simp, by simp⟩, hbl⟩
              · rw [if_neg hrr] at HEnd
                have HGet := Lib.hid (show getM l = (Mg.zero, 5) by rw [MsgMath.getM_done HMsg.out, if_neg hrr])
                clear hrr
                go_wp2_with fail
                refine HEnd.out.mono ?_
                rintro e we ⟨rfl, hoe⟩
                have HOe := Lib.hid hoe
                have HTe := Lib.hid (HGA.out.tk.tb.onlyR hoe (by have := HGA.out.tk.qt; omega))
                have HRe := Lib.hid (HGA.out.br.onlyR hoe (by have := HGA.out.rq; omega))
                clear hoe c0 c1 HEnd
                have hne := HGA.out.tk.qt
                have hne2 := HGA.out.tz
                have hne3 := HGA.out.rq
                go_upto_region 50 with (refine wpList_store_fld rfl 30 (.tmp 207) (.tmp 205) rfl T 1 (.int .i64 ((5 : Nat) : Int)) rfl rfl 67 _ #[.pointer (some ⟨Q, 0, none⟩), .int .i64 5] HTe.out (by simp) rfl (by kernel_rfl) rfl ?_; intro wf hb ho; (have c0 : wf.cell? ⟨T, 0, none⟩ = some (.pointer (some ⟨Q, 0, none⟩)) := by rw [hb.cell]; rfl); (have c1 : wf.cell? ⟨T, 1, none⟩ = some (.int .i64 5) := by rw [hb.cell]; rfl); (have HOf := Lib.hid ho); (have HTf := Lib.hid hb); (have HRf := Lib.hid (HRe.out.onlyS ho (by omega))); clear hb ho)
                clear c0 c1
                have hos : OnlyS (fun k => k = Q ∨ k = T) wr wf := (OnlyS.of_only HOe.out (.inl rfl)).trans (HOf.out.mono fun _ _ e => .inr e)
                have hbl : Below w.heap.size w wf := HGA.out.bl.trans (hos.below (fun k hk e => by have h1 := HGA.out.rl; rcases e with e | e <;> omega) HGA.out.bl.size)
                have HBl := Lib.hid hbl
                have h1 := HGA.out.rl
                clear hos hbl
                refine region_by [(213, .is (.agg zeroM)), (214, .is (.pointer (some ⟨T, 0, none⟩))), (215, .is (.pointer (some ⟨T, 0, none⟩))), (216, .is (.pointer (some ⟨T, 1, none⟩))), (217, .is (.int .i64 5)), (3, .is (.int .i64 5))] [2, 3] (fun W => OnlyS (fun k => k = R) wf W ∧ Blk W R 27 zeroM) (by kernel_rfl) (by kernel_rfl) (by kernel_rfl) (by kernel_rfl) (by kernel_rfl) ⟨(OnlyS.refl _ _).drew, HRf.out.keep ((Below.refl _ _).drew)⟩ ?_ ?_
                · refine ⟨?c0, ?c1, ?c2, ?c3, ?c4, ?c5, ?c6, trivial⟩
                  case c0 => exact ask_exec (guard_none rfl) (.agg zeroM) rfl rfl (by intro k hk; cases hk; rfl) (fun W hW => by kernel_rfl)
                  case c1 => exact ask_copy (guard_none rfl) (.tmp 4) (.inl rfl) (by intro k hk; cases hk; rfl)
                  case c2 => exact ask_exec (guard_none rfl) (.pointer (some ⟨T, 0, none⟩)) rfl rfl (by intro k hk; cases hk; rfl) (fun W hW => by kernel_rfl)
                  case c3 => exact ask_field (guard_none rfl) _ (.tmp 215) 1 (.pointer (some ⟨T, 0, none⟩)) (.pointer (some ⟨T, 1, none⟩)) rfl rfl (by intro k hk; cases hk; rfl) (fun W => by kernel_rfl)
                  case c4 => exact ask_load (guard_none rfl) _ (.tmp 216) (.pointer (some ⟨T, 1, none⟩)) (.int .i64 5) rfl rfl (by intro k hk; cases hk; rfl) (fun W hW => load_err W _ _ (by rw [(HTf.out.onlyS hW.1 (by omega)).cell]; rfl))
                  case c5 => exact ask_store_same (guard_none rfl) 27 (.tmp 2) (.tmp 213) R zeroM rfl rfl rfl rfl (facts_is (by simp [isFact])) (fun W hW => ⟨hW.2.stores 27 _ (by kernel_rfl) rfl (by kernel_rfl), hW.1.trans (setRow_onlyS W R zeroM), hW.2.row _⟩)
                  case c6 => exact ask_copy (guard_none rfl) (.tmp 217) (.inr rfl) (by intro k hk; cases hk; rfl)
                · intro a' W hW hd' hs' hf'
                  have t2 : a'.tmps.getD 2 undef = .pointer (some ⟨R, 0, none⟩) := hf' 2 rfl
                  have t3 : a'.tmps.getD 3 undef = .int .i64 5 := hf' 3 rfl
                  obtain ⟨us', hus, ha'⟩ := act_open 219 a' hs' hd'
                  rw [← hus] at t2 t3
                  have el : ((List.range 219).map us').toArray = #[us' 0, us' 1, .pointer (some ⟨R, 0, none⟩), .int .i64 5, us' 4, us' 5, us' 6, us' 7, us' 8, us' 9, us' 10, us' 11, us' 12, us' 13, us' 14, us' 15, us' 16, us' 17, us' 18, us' 19, us' 20, us' 21, us' 22, us' 23, us' 24, us' 25, us' 26, us' 27, us' 28, us' 29, us' 30, us' 31, us' 32, us' 33, us' 34, us' 35, us' 36, us' 37, us' 38, us' 39, us' 40, us' 41, us' 42, us' 43, us' 44, us' 45, us' 46, us' 47, us' 48, us' 49, us' 50, us' 51, us' 52, us' 53, us' 54, us' 55, us' 56, us' 57, us' 58, us' 59, us' 60, us' 61, us' 62, us' 63, us' 64, us' 65, us' 66, us' 67, us' 68, us' 69, us' 70, us' 71, us' 72, us' 73, us' 74, us' 75, us' 76, us' 77, us' 78, us' 79, us' 80, us' 81, us' 82, us' 83, us' 84, us' 85, us' 86, us' 87, us' 88, us' 89, us' 90, us' 91, us' 92, us' 93, us' 94, us' 95, us' 96, us' 97, us' 98, us' 99, us' 100, us' 101, us' 102, us' 103, us' 104, us' 105, us' 106, us' 107, us' 108, us' 109, us' 110, us' 111, us' 112, us' 113, us' 114, us' 115, us' 116, us' 117, us' 118, us' 119, us' 120, us' 121, us' 122, us' 123, us' 124, us' 125, us' 126, us' 127, us' 128, us' 129, us' 130, us' 131, us' 132, us' 133, us' 134, us' 135, us' 136, us' 137, us' 138, us' 139, us' 140, us' 141, us' 142, us' 143, us' 144, us' 145, us' 146, us' 147, us' 148, us' 149, us' 150, us' 151, us' 152, us' 153, us' 154, us' 155, us' 156, us' 157, us' 158, us' 159, us' 160, us' 161, us' 162, us' 163, us' 164, us' 165, us' 166, us' 167, us' 168, us' 169, us' 170, us' 171, us' 172, us' 173, us' 174, us' 175, us' 176, us' 177, us' 178, us' 179, us' 180, us' 181, us' 182, us' 183, us' 184, us' 185, us' 186, us' 187, us' 188, us' 189, us' 190, us' 191, us' 192, us' 193, us' 194, us' 195, us' 196, us' 197, us' 198, us' 199, us' 200, us' 201, us' 202, us' 203, us' 204, us' 205, us' 206, us' 207, us' 208, us' 209, us' 210, us' 211, us' 212, us' 213, us' 214, us' 215, us' 216, us' 217, us' 218] := by
                    show #[us' 0, us' 1, us' 2, us' 3, us' 4, us' 5, us' 6, us' 7, us' 8, us' 9, us' 10, us' 11, us' 12, us' 13, us' 14, us' 15, us' 16, us' 17, us' 18, us' 19, us' 20, us' 21, us' 22, us' 23, us' 24, us' 25, us' 26, us' 27, us' 28, us' 29, us' 30, us' 31, us' 32, us' 33, us' 34, us' 35, us' 36, us' 37, us' 38, us' 39, us' 40, us' 41, us' 42, us' 43, us' 44, us' 45, us' 46, us' 47, us' 48, us' 49, us' 50, us' 51, us' 52, us' 53, us' 54, us' 55, us' 56, us' 57, us' 58, us' 59, us' 60, us' 61, us' 62, us' 63, us' 64, us' 65, us' 66, us' 67, us' 68, us' 69, us' 70, us' 71, us' 72, us' 73, us' 74, us' 75, us' 76, us' 77, us' 78, us' 79, us' 80, us' 81, us' 82, us' 83, us' 84, us' 85, us' 86, us' 87, us' 88, us' 89, us' 90, us' 91, us' 92, us' 93, us' 94, us' 95, us' 96, us' 97, us' 98, us' 99, us' 100, us' 101, us' 102, us' 103, us' 104, us' 105, us' 106, us' 107, us' 108, us' 109, us' 110, us' 111, us' 112, us' 113, us' 114, us' 115, us' 116, us' 117, us' 118, us' 119, us' 120, us' 121, us' 122, us' 123, us' 124, us' 125, us' 126, us' 127, us' 128, us' 129, us' 130, us' 131, us' 132, us' 133, us' 134, us' 135, us' 136, us' 137, us' 138, us' 139, us' 140, us' 141, us' 142, us' 143, us' 144, us' 145, us' 146, us' 147, us' 148, us' 149, us' 150, us' 151, us' 152, us' 153, us' 154, us' 155, us' 156, us' 157, us' 158, us' 159, us' 160, us' 161, us' 162, us' 163, us' 164, us' 165, us' 166, us' 167, us' 168, us' 169, us' 170, us' 171, us' 172, us' 173, us' 174, us' 175, us' 176, us' 177, us' 178, us' 179, us' 180, us' 181, us' 182, us' 183, us' 184, us' 185, us' 186, us' 187, us' 188, us' 189, us' 190, us' 191, us' 192, us' 193, us' 194, us' 195, us' 196, us' 197, us' 198, us' 199, us' 200, us' 201, us' 202, us' 203, us' 204, us' 205, us' 206, us' 207, us' 208, us' 209, us' 210, us' 211, us' 212, us' 213, us' 214, us' 215, us' 216, us' 217, us' 218] = _
                    rw [t2, t3]
                  rw [el] at ha'
                  subst ha'
                  clear hus t2 t3 el hf' hs' hd'
                  have HW := Lib.hid hW
                  clear hW
                  go_wp2
                  exact bodyPost_ret (v := .tuple #[.agg zeroM, .int .i64 5]) (ret_msg rfl _ _ R zeroM _ rfl rfl rfl HW.out.2) rfl (mGetEnd_err HGet.out (HBl.out.trans (HW.out.1.below (fun k hk e => by omega) HBl.out.size)))
    · have d4 : decide ((nn : Int) > 4) = true := decide_eq_true (by omega)
      have d5 : decide ((4 : Int) < (nn : Int)) = true := decide_eq_true (by omega)
      have HMany := Lib.hid (show MsgMath.manyS nn (.ok r8 : St) = .error 4 from if_neg hn4)
      go_upto_region 26 with (refine wpList_store_fld rfl 30 (.tmp 95) (.const (.int .i64 4)) rfl T 1 (.int .i64 4) rfl rfl 67 #[.pointer (some ⟨Q, 0, none⟩), .int .i64 0] #[.pointer (some ⟨Q, 0, none⟩), .int .i64 4] HG61.out.tk.tb (by simp) rfl (by kernel_rfl) rfl ?_; intro wk hb ho; (have HGk := Lib.hid (HG61.out.code (st' := .error 4) (fun r e => by cases e) (fun d e => by cases e; omega) hb ho)); clear hb ho)
      clear c0 c1 d4 d5
      have hgq := HGk.out.tk
      go_wp2
      go_loopw [10] (fun s10 wr => s10 = .int .u64 0 ∧ wr = wk) (fun _ _ => 0)
      case atStart => exact ⟨rfl, rfl⟩
      case round =>
        obtain ⟨rfl, hwr⟩ := hrel
        subst hwr
        clear hgq
        have d1 : decide ((0 : Int) < (nn : Int)) = true := decide_eq_true (by omega)
        have c0 : wr.cell? ⟨T, 0, none⟩ = some (.pointer (some ⟨Q, 0, none⟩)) := by rw [HGk.out.tk.tb.cell]; rfl
        have c1 : wr.cell? ⟨T, 1, none⟩ = some (.int .i64 4) := by rw [HGk.out.tk.tb.cell]; rfl
        have hz : ((4 : Int) == 0) = false := rfl
        have hz2 : ((4 : Int) != 0) = true := rfl
        have HGet := Lib.hid (show getM l = (Mg.zero, 4) from MsgMath.getM_fault (show gMsg l = tag (⟨3, nf, no, nt, ni, nl, nc, ns, false, [], [], []⟩ : Mg) (.error 4) from (MsgMath.msg_head HByte.out (by omega) HT47.out HT49.out HT51.out).trans (MsgMath.body_3 HT53.out HT55.out HT57.out HT59.out HT61.out (show thru (gEnts nn) (MsgMath.manyS nn (.ok r8 : St)) = tag [] (.error 4) from by rw [HMany.out]; rfl))))
        go_upto_region 50 with fail
        clear c0 c1
        have hgr := HGk.out
        have h1 := hgr.rl
        have h2 := hgr.rq
        have h3 := hgr.tk.qt
        refine region_by [(213, .is (.agg zeroM)), (214, .is (.pointer (some ⟨T, 0, none⟩))), (215, .is (.pointer (some ⟨T, 0, none⟩))), (216, .is (.pointer (some ⟨T, 1, none⟩))), (217, .is (.int .i64 4)), (3, .is (.int .i64 4))] [2, 3] (fun W => OnlyS (fun k => k = R) wr W ∧ Blk W R 27 zeroM) (by kernel_rfl) (by kernel_rfl) (by kernel_rfl) (by kernel_rfl) (by kernel_rfl) ⟨(OnlyS.refl _ _).drew, hgr.br.keep ((Below.refl _ _).drew)⟩ ?_ ?_
        · refine ⟨?c0, ?c1, ?c2, ?c3, ?c4, ?c5, ?c6, trivial⟩
          case c0 => exact ask_exec (guard_none rfl) (.agg zeroM) rfl rfl (by intro k hk; cases hk; rfl) (fun W hW => by kernel_rfl)
          case c1 => exact ask_copy (guard_none rfl) (.tmp 4) (.inl rfl) (by intro k hk; cases hk; rfl)
          case c2 => exact ask_exec (guard_none rfl) (.pointer (some ⟨T, 0, none⟩)) rfl rfl (by intro k hk; cases hk; rfl) (fun W hW => by kernel_rfl)
          case c3 => exact ask_field (guard_none rfl) _ (.tmp 215) 1 (.pointer (some ⟨T, 0, none⟩)) (.pointer (some ⟨T, 1, none⟩)) rfl rfl (by intro k hk; cases hk; rfl) (fun W => by kernel_rfl)
          case c4 => exact ask_load (guard_none rfl) _ (.tmp 216) (.pointer (some ⟨T, 1, none⟩)) (.int .i64 4) rfl rfl (by intro k hk; cases hk; rfl) (fun W hW => load_err W _ _ (by rw [(hgr.tk.tb.onlyS hW.1 (by omega)).cell]; rfl))
          case c5 => exact ask_store_same (guard_none rfl) 27 (.tmp 2) (.tmp 213) R zeroM rfl rfl rfl rfl (facts_is (by simp [isFact])) (fun W hW => ⟨hW.2.stores 27 _ (by kernel_rfl) rfl (by kernel_rfl), hW.1.trans (setRow_onlyS W R zeroM), hW.2.row _⟩)
          case c6 => exact ask_copy (guard_none rfl) (.tmp 217) (.inr rfl) (by intro k hk; cases hk; rfl)
        · intro a' W hW hd' hs' hf'
          have t2 : a'.tmps.getD 2 undef = .pointer (some ⟨R, 0, none⟩) := hf' 2 rfl
          have t3 : a'.tmps.getD 3 undef = .int .i64 4 := hf' 3 rfl
          obtain ⟨us', hus, ha'⟩ := act_open 219 a' hs' hd'
          rw [← hus] at t2 t3
          have el : ((List.range 219).map us').toArray = #[us' 0, us' 1, .pointer (some ⟨R, 0, none⟩), .int .i64 4, us' 4, us' 5, us' 6, us' 7, us' 8, us' 9, us' 10, us' 11, us' 12, us' 13, us' 14, us' 15, us' 16, us' 17, us' 18, us' 19, us' 20, us' 21, us' 22, us' 23, us' 24, us' 25, us' 26, us' 27, us' 28, us' 29, us' 30, us' 31, us' 32, us' 33, us' 34, us' 35, us' 36, us' 37, us' 38, us' 39, us' 40, us' 41, us' 42, us' 43, us' 44, us' 45, us' 46, us' 47, us' 48, us' 49, us' 50, us' 51, us' 52, us' 53, us' 54, us' 55, us' 56, us' 57, us' 58, us' 59, us' 60, us' 61, us' 62, us' 63, us' 64, us' 65, us' 66, us' 67, us' 68, us' 69, us' 70, us' 71, us' 72, us' 73, us' 74, us' 75, us' 76, us' 77, us' 78, us' 79, us' 80, us' 81, us' 82, us' 83, us' 84, us' 85, us' 86, us' 87, us' 88, us' 89, us' 90, us' 91, us' 92, us' 93, us' 94, us' 95, us' 96, us' 97, us' 98, us' 99, us' 100, us' 101, us' 102, us' 103, us' 104, us' 105, us' 106, us' 107, us' 108, us' 109, us' 110, us' 111, us' 112, us' 113, us' 114, us' 115, us' 116, us' 117, us' 118, us' 119, us' 120, us' 121, us' 122, us' 123, us' 124, us' 125, us' 126, us' 127, us' 128, us' 129, us' 130, us' 131, us' 132, us' 133, us' 134, us' 135, us' 136, us' 137, us' 138, us' 139, us' 140, us' 141, us' 142, us' 143, us' 144, us' 145, us' 146, us' 147, us' 148, us' 149, us' 150, us' 151, us' 152, us' 153, us' 154, us' 155, us' 156, us' 157, us' 158, us' 159, us' 160, us' 161, us' 162, us' 163, us' 164, us' 165, us' 166, us' 167, us' 168, us' 169, us' 170, us' 171, us' 172, us' 173, us' 174, us' 175, us' 176, us' 177, us' 178, us' 179, us' 180, us' 181, us' 182, us' 183, us' 184, us' 185, us' 186, us' 187, us' 188, us' 189, us' 190, us' 191, us' 192, us' 193, us' 194, us' 195, us' 196, us' 197, us' 198, us' 199, us' 200, us' 201, us' 202, us' 203, us' 204, us' 205, us' 206, us' 207, us' 208, us' 209, us' 210, us' 211, us' 212, us' 213, us' 214, us' 215, us' 216, us' 217, us' 218] := by
            show #[us' 0, us' 1, us' 2, us' 3, us' 4, us' 5, us' 6, us' 7, us' 8, us' 9, us' 10, us' 11, us' 12, us' 13, us' 14, us' 15, us' 16, us' 17, us' 18, us' 19, us' 20, us' 21, us' 22, us' 23, us' 24, us' 25, us' 26, us' 27, us' 28, us' 29, us' 30, us' 31, us' 32, us' 33, us' 34, us' 35, us' 36, us' 37, us' 38, us' 39, us' 40, us' 41, us' 42, us' 43, us' 44, us' 45, us' 46, us' 47, us' 48, us' 49, us' 50, us' 51, us' 52, us' 53, us' 54, us' 55, us' 56, us' 57, us' 58, us' 59, us' 60, us' 61, us' 62, us' 63, us' 64, us' 65, us' 66, us' 67, us' 68, us' 69, us' 70, us' 71, us' 72, us' 73, us' 74, us' 75, us' 76, us' 77, us' 78, us' 79, us' 80, us' 81, us' 82, us' 83, us' 84, us' 85, us' 86, us' 87, us' 88, us' 89, us' 90, us' 91, us' 92, us' 93, us' 94, us' 95, us' 96, us' 97, us' 98, us' 99, us' 100, us' 101, us' 102, us' 103, us' 104, us' 105, us' 106, us' 107, us' 108, us' 109, us' 110, us' 111, us' 112, us' 113, us' 114, us' 115, us' 116, us' 117, us' 118, us' 119, us' 120, us' 121, us' 122, us' 123, us' 124, us' 125, us' 126, us' 127, us' 128, us' 129, us' 130, us' 131, us' 132, us' 133, us' 134, us' 135, us' 136, us' 137, us' 138, us' 139, us' 140, us' 141, us' 142, us' 143, us' 144, us' 145, us' 146, us' 147, us' 148, us' 149, us' 150, us' 151, us' 152, us' 153, us' 154, us' 155, us' 156, us' 157, us' 158, us' 159, us' 160, us' 161, us' 162, us' 163, us' 164, us' 165, us' 166, us' 167, us' 168, us' 169, us' 170, us' 171, us' 172, us' 173, us' 174, us' 175, us' 176, us' 177, us' 178, us' 179, us' 180, us' 181, us' 182, us' 183, us' 184, us' 185, us' 186, us' 187, us' 188, us' 189, us' 190, us' 191, us' 192, us' 193, us' 194, us' 195, us' 196, us' 197, us' 198, us' 199, us' 200, us' 201, us' 202, us' 203, us' 204, us' 205, us' 206, us' 207, us' 208, us' 209, us' 210, us' 211, us' 212, us' 213, us' 214, us' 215, us' 216, us' 217, us' 218] = _
            rw [t2, t3]
          rw [el] at ha'
          subst ha'
          clear hus t2 t3 el hf' hs' hd'
          have HW := Lib.hid hW
          clear hW
          go_wp2
          exact bodyPost_ret (v := .tuple #[.agg zeroM, .int .i64 4]) (ret_msg rfl _ _ R zeroM _ rfl rfl rfl HW.out.2) rfl (mGetEnd_err HGet.out (hgr.bl.trans (HW.out.1.below (fun k hk e => by omega) hgr.bl.size)))

end Go.Proofs.Ytidapdooiibfnaa

