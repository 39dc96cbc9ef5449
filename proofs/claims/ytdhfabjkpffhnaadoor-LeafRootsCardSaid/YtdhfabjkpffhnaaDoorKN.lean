/- Joined: LeafRefRange, LeafRefPeak, LeafPushKit. -/
import Derived.Test.YtdhfabjkpffhnaaDoorKM
/- Ranges: the reference's ones, Right, Hashes, Same, Peak. -/
namespace Go.Proofs.YtdhfabjkpffhnaaDoor
set_option maxRecDepth 20000
open Go.RowKit ShaMath LeafMath Reg

theorem ones_le : ∀ (j n : Nat), n < 2 ^ j → ones n ≤ j := by
  intro j
  induction j with
  | zero => intro n h; simp at h; subst h; rw [ones_zero]; exact Nat.le_refl _
  | succ j ih =>
    intro n h
    rw [Nat.pow_succ] at h
    have := ih (n / 2) (by omega)
    rw [ones_more]
    omega
theorem ones_64 (n : Nat) (h : n < 18446744073709551616) : ones n ≤ 64 := ones_le 64 n (by simpa using h)

def OnesAt (n : Nat) (w : World) (s0 s3 : Value) (wr : World) : Prop := ∃ m k : Nat, k + ones m = ones n ∧ m ≤ n ∧ s0 = .int .u64 (m : Int) ∧ s3 = .int .i64 (k : Int) ∧ wr = w

theorem refones_any (n : Nat) (w : World) (hn : n < 18446744073709551616) :
    Calls Tryd.prog 58 #[.int .u64 (n : Int)] w fun e w' => e = .returned (.int .i64 (ones n : Int)) ∧ w' = w := by
  have hstart : OnesAt n w (.int .u64 (n : Int)) (.int .i64 0) w := ⟨n, 0, by omega, Nat.le_refl _, rfl, rfl, rfl⟩
  have HS := Lib.hid hstart
  have h64 := ones_64 n hn
  clear hstart
  go_enter Tryd.func58, Tryd.ntmps58
  go_wp2
  go_loopw [0, 3] (fun s0 s3 wr => OnesAt n w s0 s3 wr) (fun s0 _ _ => (match s0 with | .int _ z => z.toNat | _ => 0))
  case atStart => exact HS.out
  case round =>
    obtain ⟨m, k, hk, hm, rfl, rfl, rfl⟩ := hrel
    have hk64 : k ≤ 64 := by omega
    have HK := Lib.hid hk
    clear hk HS h64
    by_cases h0 : 0 < m
    · obtain ⟨d, hd⟩ : ∃ d : Nat, (m : Int) % 2 = (d : Int) := ⟨m % 2, by omega⟩
      obtain ⟨q, hq⟩ : ∃ q : Nat, (m : Int) / 2 = (q : Int) := ⟨m / 2, by omega⟩
      have HD := Lib.hid (show d = m % 2 by omega)
      have HQ := Lib.hid (show q = m / 2 by omega)
      have hd1 : d ≤ 1 := by omega
      have hqm : q ≤ m := by omega
      obtain ⟨k2, hk2⟩ : ∃ k2 : Nat, (k : Int) + (d : Int) = (k2 : Int) := ⟨k + d, by omega⟩
      have HK2 := Lib.hid (show k2 = k + d by omega)
      go_wp2
      go_roundw
      case rel =>
        refine ⟨q, k2, ?_, by omega, rfl, rfl, rfl⟩
        have h := HK.out
        rw [ones_more m] at h
        rw [HQ.out, HK2.out, HD.out]
        omega
      case measure =>
        have := HQ.out
        simp only [Int.toNat_natCast]
        omega
    · obtain rfl : m = 0 := by omega
      have HK3 := Lib.hid (show k = ones n by have := HK.out; rw [ones_zero] at this; omega)
      clear HK
      go_wp2
      go_ret
      exact ⟨by rw [← HK3.out]; rfl, rfl⟩

set_option maxRecDepth 100000 in
theorem refright_any (s n c : Nat) (a : Option Addr) (w : World) (hs : s < 18446744073709551616) :
    Calls Tryd.prog 29 #[.agg (rngC s (.slice a n c))] w fun e w' => e = .returned (.bool (decide (n = ones s))) ∧ Below w.heap.size w w' := by
  obtain ⟨o, ho⟩ : ∃ o, o = ones s := ⟨_, rfl⟩
  have HO : Hid (∀ W : World, ∀ N, Calls Tryd.prog 58 #[.int .u64 (s : Int)] (W.drewN N) fun e w' => e = .returned (.int .i64 (o : Int)) ∧ ∃ m, w' = W.drewN m) := Lib.hid fun W N => by
    rw [ho]
    exact (refones_any s (W.drewN N) hs).mono fun e w' h => ⟨h.1, N, h.2⟩
  rw [← ho]
  have ho64 : o ≤ 64 := by rw [ho]; exact ones_64 s hs
  obtain ⟨b, hbb⟩ : ∃ b, b = decide (n = o) := ⟨_, rfl⟩
  have hdec : ((n : Int) == (o : Int)) = b := by rw [hbb, Bool.eq_iff_iff]; simp; omega
  have HD := Lib.hid hdec
  rw [← hbb]
  clear ho hs hbb hdec
  go_enter Tryd.func29, Tryd.ntmps29
  go_upto_region 1 with fail
  refine world_cut (fun W => Blk W w.heap.size 36 (rngC s (.slice a n c)) ∧ Below w.heap.size w W) ⟨Blk.new w _ _, (Below.refl _ _).alloc (Nat.le_refl _) _⟩ ?_
  rintro W1 ⟨hb, hw⟩
  have c0 : ∀ N, (W1.drewN N).cell? ⟨w.heap.size, 0, none⟩ = some (.int .u64 (s : Int)) := fun N => by show W1.cell? _ = _; rw [hb.cell]; rfl
  have c1 : ∀ N, (W1.drewN N).cell? ⟨w.heap.size, 1, none⟩ = some (.slice a n c) := fun N => by show W1.cell? _ = _; rw [hb.cell]; rfl
  have HW := Lib.hid hw
  have HO1 := Lib.hid (HO.out W1)
  clear hb hw HO
  go_quiet (first | with_reducible exact HO1.out _)
  go_wp2
  go_ret
  exact ⟨by rw [← HD.out]; rfl, HW.out.trans ⟨rfl, rfl, rfl, Nat.le_refl _, fun _ _ => rfl⟩⟩

def HashesAt (hs hs' : List Hs) (w : World) (s : Value) (wr : World) : Prop := ∃ i : Nat, i ≤ hs.length ∧ s = .int .i64 (i : Int) ∧ hs.take i = hs'.take i ∧ Below w.heap.size w wr

theorem take_next {hs hs' : List Hs} {i : Nat} {x y : Hs} (h : hs.take i = hs'.take i) (hx : hs[i]? = some x) (hy : hs'[i]? = some y) (e : x = y) : hs.take (i + 1) = hs'.take (i + 1) := by
  obtain ⟨h1, e1⟩ := List.getElem?_eq_some_iff.1 hx
  obtain ⟨h2, e2⟩ := List.getElem?_eq_some_iff.1 hy
  rw [List.take_succ_eq_append_getElem h1, List.take_succ_eq_append_getElem h2, h, e1, e2, e]

set_option maxHeartbeats 1000000 in
set_option maxRecDepth 100000 in
theorem refhashes_any (v v' : Value) (hs hs' : List Hs) (w : World) (hv : Hss w v hs) (hv' : Hss w v' hs') (hl : hs.length ≤ 4398046511104) (hl' : hs'.length ≤ 4398046511104) :
    Calls Tryd.prog 23 #[v, v'] w fun e w' => e = .returned (.bool (decide (hs = hs'))) ∧ Below w.heap.size w w' := by
  obtain ⟨a, c, rfl, hc⟩ := hv.form
  obtain ⟨a', c', rfl, hc'⟩ := hv'.form
  have HV := Lib.hid hv
  have HV' := Lib.hid hv'
  obtain ⟨n, hn⟩ : ∃ n, n = hs.length := ⟨_, rfl⟩
  obtain ⟨m, hm⟩ : ∃ m, m = hs'.length := ⟨_, rfl⟩
  rw [← hn] at HV hl hc ⊢
  rw [← hm] at HV' hl' hc' ⊢
  have HN := Lib.hid hn
  have HM := Lib.hid hm
  clear hv hv' hn hm
  by_cases hnm : n = m
  · subst hnm
    have hstart : HashesAt hs hs' w (.int .i64 0) w := ⟨0, Nat.zero_le _, rfl, rfl, Below.refl _ _⟩
    have HS := Lib.hid hstart
    clear hstart
    go_enter Tryd.func23, Tryd.ntmps23
    go_wp2
    go_loopw [5] (fun s5 wr => HashesAt hs hs' w s5 wr) (fun s5 _ => n - (intOf s5).toNat)
    case atStart => exact HS.out
    case round =>
      obtain ⟨i, hi, rfl, heq, hb⟩ := hrel
      have hin : i ≤ n := by have := HN.out; omega
      have HB := Lib.hid hb
      have HEq := Lib.hid heq
      clear hi heq hb HS
      by_cases hlt : i < n
      · obtain ⟨x, hx⟩ : ∃ x, hs[i]? = some x := ⟨hs[i]'(by have := HN.out; omega), List.getElem?_eq_getElem _⟩
        obtain ⟨y, hy⟩ : ∃ y, hs'[i]? = some y := ⟨hs'[i]'(by have := HM.out; omega), List.getElem?_eq_getElem _⟩
        obtain ⟨ad, rfl, hcx⟩ := HV.out.load hx
        obtain ⟨ad', rfl, hcy⟩ := HV'.out.load hy
        have hx32 := HV.out.all.get hx
        have hy32 := HV'.out.all.get hy
        have HLx := Lib.hid (fun (W : World) (hW : Below w.heap.size w W) => load_hash W (ad.add (i * 32)) x hx32 fun j u hj => by
          obtain ⟨ad2, e, h⟩ := (HV.out.below (Nat.le_refl _) hW).load hx
          cases e
          exact h j u hj)
        have HLy := Lib.hid (fun (W : World) (hW : Below w.heap.size w W) => load_hash W (ad'.add (i * 32)) y hy32 fun j u hj => by
          obtain ⟨ad2, e, h⟩ := (HV'.out.below (Nat.le_refl _) hW).load hy
          cases e
          exact h j u hj)
        obtain ⟨b, hb⟩ : ∃ b, b = (x == y) := ⟨_, rfl⟩
        have HNeq := Lib.hid (fun s t W => neq_hash2 s t x y hx32 hy32 W)
        obtain ⟨cx, hcx'⟩ : ∃ cx, cx = bs x := ⟨_, rfl⟩
        obtain ⟨cy, hcy'⟩ : ∃ cy, cy = bs y := ⟨_, rfl⟩
        rw [← hcx', ← hcy', ← hb] at HNeq
        rw [← hcx'] at HLx
        rw [← hcy'] at HLy
        have HX := Lib.hid hx
        have HY := Lib.hid hy
        have HBb := Lib.hid hb
        clear hx hy hcx hcy hx32 hy32 hcx' hcy' hb
        go_upto_region 6 with fail
        refine region_by [(17, .is (.slice (some ad) n c)), (18, .is (.int .i64 (i : Int))), (19, .is (.pointer (some (ad.add (i * 32))))), (20, .is (.agg cx)), (21, .is (.slice (some ad') n c')), (22, .is (.int .i64 (i : Int))), (23, .is (.pointer (some (ad'.add (i * 32))))), (24, .is (.agg cy)), (25, .is (.bool (!b)))] [0, 1, 2, 3, 5, 6, 7, 8, 9, 10, 25] (fun W => Below w.heap.size w W)
          (by kernel_rfl) (by kernel_rfl) (by kernel_rfl) (by kernel_rfl) (by kernel_rfl) HB.out.drew ?_ ?_
        · refine ⟨?a0, ?a1, ?a2, ?a3, ?a4, ?a5, ?a6, ?a7, ?a8, trivial⟩
          case a0 => exact ask_copy (guard_none rfl) (.tmp 0) (.inl rfl) (by intro k hk; cases hk; rfl)
          case a1 => exact ask_copy (guard_none rfl) (.tmp 5) (.inl rfl) (by intro k hk; cases hk; rfl)
          case a2 => exact ask_idx (guard_none rfl) _ (.tmp 17) (.tmp 18) (.slice (some ad) n c) (.int .i64 (i : Int)) (.pointer (some (ad.add (i * 32)))) rfl rfl rfl (by intro k hk; cases hk; rfl) (fun W => hss_index W ad n c i hlt)
          case a3 => exact ask_load (guard_none rfl) _ (.tmp 19) (.pointer (some (ad.add (i * 32)))) (.agg cx) rfl rfl (by intro k hk; cases hk; rfl) (fun W hW => HLx.out W hW)
          case a4 => exact ask_copy (guard_none rfl) (.tmp 1) (.inl rfl) (by intro k hk; cases hk; rfl)
          case a5 => exact ask_copy (guard_none rfl) (.tmp 5) (.inl rfl) (by intro k hk; cases hk; rfl)
          case a6 => exact ask_idx (guard_none rfl) _ (.tmp 21) (.tmp 22) (.slice (some ad') n c') (.int .i64 (i : Int)) (.pointer (some (ad'.add (i * 32)))) rfl rfl rfl (by intro k hk; cases hk; rfl) (fun W => hss_index W ad' n c' i hlt)
          case a7 => exact ask_load (guard_none rfl) _ (.tmp 23) (.pointer (some (ad'.add (i * 32)))) (.agg cy) rfl rfl (by intro k hk; cases hk; rfl) (fun W hW => HLy.out W hW)
          case a8 => exact ask_bin (guard_none rfl) _ _ _ _ _ _ _ _ rfl rfl rfl (by intro k hk; cases hk; rfl) (HNeq.out _ _)
        · intro a' W hW hd' hs' hf'
          have t0 : a'.tmps.getD 0 undef = .slice (some ad) n c := hf' 0 rfl
          have t1 : a'.tmps.getD 1 undef = .slice (some ad') n c' := hf' 1 rfl
          have t2 : a'.tmps.getD 2 undef = undef := hf' 2 rfl
          have t3 : a'.tmps.getD 3 undef = undef := hf' 3 rfl
          have t6 : a'.tmps.getD 6 undef = .slice (some ad) n c := hf' 6 rfl
          have t7 : a'.tmps.getD 7 undef = .int .i64 (n : Int) := hf' 7 rfl
          have t8 : a'.tmps.getD 8 undef = .slice (some ad') n c' := hf' 8 rfl
          have t9 : a'.tmps.getD 9 undef = .int .i64 (n : Int) := hf' 9 rfl
          have t10 : a'.tmps.getD 10 undef = .bool false := hf' 10 rfl
          have t5 : a'.tmps.getD 5 undef = .int .i64 (i : Int) := hf' 5 rfl
          have t25 : a'.tmps.getD 25 undef = .bool (!b) := hf' 25 rfl
          obtain ⟨us', hus, ha'⟩ := act_open 26 a' hs' hd'
          rw [← hus] at t0 t1 t2 t3 t5 t6 t7 t8 t9 t10 t25
          have el : ((List.range 26).map us').toArray = #[.slice (some ad) n c, .slice (some ad') n c', undef, undef, us' 4, .int .i64 (i : Int), .slice (some ad) n c, .int .i64 (n : Int), .slice (some ad') n c', .int .i64 (n : Int), .bool false, us' 11, us' 12, us' 13, us' 14, us' 15, us' 16, us' 17, us' 18, us' 19, us' 20, us' 21, us' 22, us' 23, us' 24, .bool (!b)] := by
            show #[us' 0, us' 1, us' 2, us' 3, us' 4, us' 5, us' 6, us' 7, us' 8, us' 9, us' 10, us' 11, us' 12, us' 13, us' 14, us' 15, us' 16, us' 17, us' 18, us' 19, us' 20, us' 21, us' 22, us' 23, us' 24, us' 25] = _
            rw [t0, t1, t2, t3, t5, t6, t7, t8, t9, t10, t25]
          rw [el] at ha'
          subst ha'
          have HW := Lib.hid hW
          clear hus t0 t1 t2 t3 t5 t6 t7 t8 t9 t10 t25 el hf' hs' hd' hW HLx HLy HNeq
          cases b with
          | true =>
            go_wp2
            go_roundw
            case rel => exact ⟨i + 1, by have := HN.out; omega, by simp, take_next HEq.out HX.out HY.out (by have := HBb.out; simpa using this.symm), HW.out⟩
            case measure => simp [intOf]; omega
          | false =>
            go_wp2
            go_ret
            have hne : hs ≠ hs' := fun e => by
              have h1 := HX.out
              rw [e, HY.out] at h1
              have := HBb.out
              rw [Option.some.inj h1] at this
              simp at this
            exact ⟨by simp [hne], HW.out⟩
      · obtain rfl : i = n := by omega
        have hfin : hs = hs' := by
          have h := HEq.out
          rwa [List.take_of_length_le (by have := HN.out; omega), List.take_of_length_le (by have := HM.out; omega)] at h
        have HF := Lib.hid hfin
        clear hfin HEq
        go_wp2
        go_ret
        exact ⟨by simp [HF.out], HB.out⟩
  · have hne : hs ≠ hs' := fun e => hnm (by rw [HN.out, HM.out, e])
    have HNe := Lib.hid hne
    have hnm2 : ¬ (n : Int) = (m : Int) := by omega
    clear hne hnm
    go_enter Tryd.func23, Tryd.ntmps23
    go_wp2
    go_ret
    exact ⟨by simp [HNe.out], Below.refl _ _⟩
end Go.Proofs.YtdhfabjkpffhnaaDoor

/- Ranges: the reference's Same and Peak. -/
namespace Go.Proofs.YtdhfabjkpffhnaaDoor
set_option maxRecDepth 20000
open Go.RowKit ShaMath LeafMath Reg

theorem size_rng (s : Nat) (v : Value) : (Tryd.prog.info? 36).map (·.size) = some (rngC s v).size := by kernel_rfl

set_option maxRecDepth 100000 in
theorem refsame_any (s s' : Nat) (v v' : Value) (hs hs' : List Hs) (w : World) (hv : Hss w v hs) (hv' : Hss w v' hs') (hl : hs.length ≤ 4398046511104) (hl' : hs'.length ≤ 4398046511104) :
    Calls Tryd.prog 30 #[.agg (rngC s v), .agg (rngC s' v')] w fun e w' => e = .returned (.bool (decide (s = s' ∧ hs = hs'))) ∧ Below w.heap.size w w' := by
  have b1 : Below w.heap.size w ((w.alloc (.cells (rngC s v) 36)).alloc (.cells (rngC s' v') 36)) := ((Below.refl _ _).alloc (Nat.le_refl _) _).alloc (by simp) _
  have HB1 := Lib.hid b1
  by_cases hss : s = s'
  · subst hss
    have HH := Lib.hid (refhashes_any v v' hs hs' _ (hv.below (Nat.le_refl _) b1) (hv'.below (Nat.le_refl _) b1) hl hl')
    obtain ⟨b, hb⟩ : ∃ b, b = decide (hs = hs') := ⟨_, rfl⟩
    rw [← hb] at HH
    have hdec : decide (s = s ∧ hs = hs') = b := by rw [hb]; simp
    rw [hdec]
    obtain ⟨a, c, rfl, _⟩ := hv.form
    obtain ⟨a', c', rfl, _⟩ := hv'.form
    clear hv hv' hl hl' hb hdec b1
    go_enter Tryd.func30, Tryd.ntmps30
    go_wp2_with fail
    refine HH.out.mono ?_
    rintro e w2 ⟨rfl, hb2⟩
    have HB2 := Lib.hid hb2
    clear hb2 HH
    go_wp2
    go_ret
    exact ⟨rfl, HB1.out.trans (HB2.out.mono HB1.out.size)⟩
  · have hdec : decide (s = s' ∧ hs = hs') = false := by simp [hss]
    rw [hdec]
    have hne : ((s : Int) == (s' : Int)) = false := by simp; omega
    obtain ⟨a, c, rfl, _⟩ := hv.form
    obtain ⟨a', c', rfl, _⟩ := hv'.form
    clear hv hv' hl hl' hdec b1 hss
    go_enter Tryd.func30, Tryd.ntmps30
    go_wp2
    go_ret
    exact ⟨rfl, HB1.out⟩

/-- In the midst of Peak. -/
def PkW (w : World) (s : Nat) (v : Value) (W : World) : Prop := Blk W w.heap.size 36 (rngC s v) ∧ (∃ zs, Blk W (w.heap.size + 1) 24 zs ∧ zs.size = 32) ∧ Below w.heap.size w W
theorem PkW.keep {w W W' : World} {s : Nat} {v : Value} (h : PkW w s v W) (hb : Below W.heap.size W W') : PkW w s v W' := by
  obtain ⟨h1, ⟨zs, h2, h3⟩, h4⟩ := h
  exact ⟨h1.keep hb, ⟨zs, h2.keep hb, h3⟩, h4.trans (hb.mono h4.size)⟩
theorem PkW.new (w : World) (s : Nat) (v : Value) : PkW w s v ((w.alloc (.cells (rngC s v) 36)).alloc (.cells (bs (List.replicate 32 0)) 24)) :=
  ⟨(Blk.new w _ _).alloc _, ⟨_, Blk.newAt _ _ _ _ _ (by simp) rfl, rfl⟩, ((Below.refl _ _).alloc (Nat.le_refl _) _).alloc (by simp) _⟩
theorem PkW.lt {w W : World} {s : Nat} {v : Value} (h : PkW w s v W) : w.heap.size + 2 ≤ W.heap.size := by
  obtain ⟨h1, ⟨zs, h2, h3⟩, h4⟩ := h
  exact h2.lt
/-- A block behind them is written. -/
theorem PkW.row {w W : World} {s : Nat} {v : Value} (h : PkW w s v W) (g : Nat) (cs : Array Value) (hg : w.heap.size + 2 ≤ g) : PkW w s v (W.setRow g cs) := by
  obtain ⟨h1, ⟨zs, h2, h3⟩, h4⟩ := h
  exact ⟨h1.rowOther _ (by omega), ⟨zs, h2.rowOther _ (by omega), h3⟩, below_setRow h4 _ _ (by omega)⟩

/-- What Peak answers. -/
def peakR (n : Int) (s : Nat) (ps : List Hs) : Hs × Nat := if ps.length = ones s then (peakF n ps, 0) else (List.replicate 32 0, 1)

theorem load_hl (W : World) (p : Addr) (v : Value) (h : W.cell? p = some v) : (Instr.loadAt 30 (.pointer (some p))).run Tryd.prog W = .ok v W := by
  have hagg : (isAgg 30).run Tryd.prog W = .ok false W := by kernel_rfl
  simp [Instr.loadAt, Instr.sureAddr, loadVar, Sem.run_bind, hagg, h]

theorem fold_32 (n : Int) (ps : List Hs) (x : Hs) (hx : x.length = 32) : (ps.foldr (nodeH n) x).length = 32 := by
  cases ps with
  | nil => exact hx
  | cons p ps => exact nodeH_length _ _ _

/-- The fold, from the right. -/
theorem fold_step (n : Int) (ps : List Hs) (x p : Hs) (i : Nat) (h : ps[i]? = some p) : (ps.drop i).foldr (nodeH n) x = nodeH n p ((ps.drop (i + 1)).foldr (nodeH n) x) := by
  obtain ⟨h1, rfl⟩ := List.getElem?_eq_some_iff.1 h
  rw [List.drop_eq_getElem_cons h1]
  rfl

def PeakAt (n : Int) (w : World) (s : Nat) (v : Value) (qs : List Hs) (x : Hs) (g : Nat) (s8 : Value) (wr : World) : Prop :=
  ∃ (i : Nat) (z : Int) (cs : Array Value), i ≤ qs.length ∧ z = (i : Int) - 1 ∧ s8 = .int .i64 z ∧ cs = bs ((qs.drop i).foldr (nodeH n) x) ∧ Blk wr g 24 cs ∧ PkW w s v wr

set_option maxHeartbeats 1000000 in
set_option maxRecDepth 100000 in
theorem refpeak_any (n : Int) (hn : I64 n) (s : Nat) (v : Value) (ps : List Hs) (w : World) (hv : Hss w v ps) (hs : s < 18446744073709551616) (hl : ps.length ≤ 4398046511104) (hk : Consts w) :
    Calls Tryd.prog 27 #[.int .i64 n, .agg (rngC s v)] w fun e w' => e = .returned (.tuple #[.agg (bs (peakR n s ps).1), .int .i64 ((peakR n s ps).2 : Int)]) ∧ Below w.heap.size w w' := by
  obtain ⟨a, c, rfl, hc⟩ := hv.form
  obtain ⟨m, hm⟩ : ∃ m, m = ps.length := ⟨_, rfl⟩
  rw [← hm] at hv hl hc ⊢
  have HR := Lib.hid (fun W => refright_any s m c a W hs)
  have HP := Lib.hid (PkW.new w s (.slice a m c))
  have HK := Lib.hid hk
  have HV := Lib.hid hv
  have HM := Lib.hid hm
  obtain ⟨z32, hz32, hz1, hz2⟩ := hash_cells (List.replicate 32 0) rfl
  have HZ := Lib.hid (size_hash hz1)
  have HZ1 := Lib.hid hz1
  have HZ2 := Lib.hid hz2
  by_cases hr : m = ones s
  · have hpk : peakR n s ps = (peakF n ps, 0) := by rw [peakR, if_pos (by omega)]
    rw [hpk]
    by_cases h0 : m = 0
    · subst h0
      have he : peakF n ps = emptyH n := by rw [List.eq_nil_of_length_eq_zero hm.symm]; rfl
      rw [he]
      obtain ⟨cs, hcs, hcl, hone⟩ := hash_cells (emptyH n) (emptyH_length _)
      have HE := Lib.hid (fun (W : World) (h : Below w.heap.size w W) => refempty_any n W hn (hk.below (Nat.le_refl _) h))
      rw [← hcs] at HE ⊢
      have HSz := Lib.hid (size_hash hcl)
      have HOne := Lib.hid hone
      have HCl := Lib.hid hcl
      have e1 : decide (0 = ones s) = true := by simpa using hr
      rw [e1] at HR
      clear hv hk hn hm hs hr hpk he hcs hcl hone hz32 hz1 hz2 e1 hl
      go_enter Tryd.func27, Tryd.ntmps27
      go_upto_region 1 with fail
      refine world_cut (fun W => PkW w s (.slice a 0 c) W) HP.out ?_
      clear HP
      intro W1 hW1
      have HW1 := Lib.hid hW1
      clear hW1
      go_wp2_with (refine wpList_load_row rfl 36 (.tmp 3) rfl w.heap.size rfl 36 (rngC s (.slice a 0 c)) (0, 0) _ HW1.out.1 Tryd.underlying36 rfl (size_rng _ _) ?_)
      refine (HR.out _).mono ?_
      rintro e W2 ⟨rfl, hb2⟩
      have hW2 := HW1.out.keep hb2
      have c1 : W2.cell? ⟨w.heap.size, 1, none⟩ = some (.slice a 0 c) := by rw [hW2.1.cell]; rfl
      have HW2 := Lib.hid hW2
      clear hb2 hW2 HW1 HR
      go_wp2_with fail
      clear c1
      refine (HE.out _ HW2.out.2.2).mono ?_
      rintro e W3 ⟨rfl, hb3⟩
      have HW3 := Lib.hid (HW2.out.keep hb3)
      clear hb3 HW2 HE
      obtain ⟨h1, ⟨zs, h2, h3⟩, h4⟩ := HW3.out
      have H2 := Lib.hid h2
      have H3 := Lib.hid h3
      have H4 := Lib.hid h4
      clear h1 h2 h3 h4 HW3
      go_wp2_with (refine wpList_store_row rfl 24 (.tmp 4) (.tmp 19) rfl (w.heap.size + 1) cs rfl rfl 24 _ H2.out HSz.out (by rw [HCl.out, H3.out]) HOne.out ?_)
      exact bodyPost_ret (v := .tuple #[.agg cs, .int .i64 0]) (ret_hash rfl _ _ (w.heap.size + 1) cs _ HCl.out rfl rfl (Blk.row H2.out cs)) rfl ⟨rfl, below_setRow H4.out _ _ (by omega)⟩
    · obtain ⟨qs, x, rfl⟩ : ∃ qs x, ps = qs ++ [x] := by
        have hne : ps ≠ [] := fun e => h0 (by rw [hm, e]; rfl)
        exact ⟨ps.dropLast, ps.getLast hne, (List.dropLast_concat_getLast hne).symm⟩
      have hq : m = qs.length + 1 := by rw [hm]; simp
      obtain ⟨q, hqq⟩ : ∃ q, q = qs.length := ⟨_, rfl⟩
      have hmq : m = q + 1 := by omega
      subst hmq
      have hpf : peakF n (qs ++ [x]) = qs.foldr (nodeH n) x := by simp [peakF]
      rw [hpf]
      have hx : (qs ++ [x])[q]? = some x := by rw [hqq]; simp
      have hx32 : x.length = 32 := hv.all.get hx
      obtain ⟨ad, rfl, hcx⟩ := hv.load hx
      obtain ⟨cx, hcx', hcl, hone⟩ := hash_cells x hx32
      have HLx := Lib.hid (fun (W : World) (hW : Below w.heap.size w W) => load_hash W (ad.add (q * 32)) x hx32 fun j u hj => by
        obtain ⟨ad2, e, h⟩ := (hv.below (Nat.le_refl _) hW).load hx
        cases e
        exact h j u hj)
      have HIx := Lib.hid (fun W => hss_index W ad (q + 1) c q (by omega))
      rw [← hcx'] at HLx
      have HSz := Lib.hid (size_hash hcl)
      have HOne := Lib.hid hone
      have HCl := Lib.hid hcl
      have HCx := Lib.hid hcx'
      have HX32 := Lib.hid hx32
      have HQ := Lib.hid hqq
      have HN := Lib.hid hn
      obtain ⟨cf, hcf, hcf1, hcf2⟩ := hash_cells (qs.foldr (nodeH n) x) (fold_32 n qs x hx32)
      have HCf := Lib.hid hcf
      have HCf1 := Lib.hid hcf1
      have HCf2 := Lib.hid hcf2
      rw [← hcf]
      have e1 : decide (q + 1 = ones s) = true := by simpa using hr
      rw [e1] at HR
      have hs' := hs
      clear hv hk hn hm hs hr hpk hpf hcx' hcl hone hz32 hz1 hz2 e1 hx hx32 hcx hq hqq h0 hcf hcf1 hcf2 hs'
      go_enter Tryd.func27, Tryd.ntmps27
      go_upto_region 1 with fail
      refine world_cut (fun W => PkW w s (.slice (some ad) (q + 1) c) W) HP.out ?_
      clear HP
      intro W1 hW1
      have HW1 := Lib.hid hW1
      clear hW1
      obtain ⟨qi, hqi⟩ : ∃ qi : Nat, qi = q + 1 := ⟨_, rfl⟩
      rw [← hqi] at HW1 HV HR HIx ⊢
      have HQi := Lib.hid hqi
      have hqi2 : (qi : Int) - 1 = (q : Int) := by omega
      have hqi3 : ¬ (qi : Int) = 0 := by omega
      have hqi4 : qi ≤ 4398046511104 := by omega
      obtain ⟨z0, hz0⟩ : ∃ z : Int, z = (q : Int) - 1 := ⟨_, rfl⟩
      have hz00 : (qi : Int) - 2 = z0 := by omega
      have hzb : -1 ≤ z0 ∧ z0 ≤ 4398046511104 := by omega
      have HZ0 := Lib.hid hz0
      clear hqi hz0
      go_wp2_with (refine wpList_load_row rfl 36 (.tmp 3) rfl w.heap.size rfl 36 (rngC s (.slice (some ad) qi c)) (0, 0) _ HW1.out.1 Tryd.underlying36 rfl (size_rng _ _) ?_)
      refine (HR.out _).mono ?_
      rintro e W2 ⟨rfl, hb2⟩
      have hW2 := HW1.out.keep hb2
      have c1 : W2.cell? ⟨w.heap.size, 1, none⟩ = some (.slice (some ad) qi c) := by rw [hW2.1.cell]; rfl
      have HW2 := Lib.hid hW2
      have hix := HIx.out
      clear hb2 hW2 HW1 HR
      go_upto_region 7 with (first
        | (refine wpList_load_by rfl 24 (.tmp 24) rfl _ _ rfl (HLx.out _ HW2.out.2.2) ?_)
        | (refine wpList_store_row rfl 24 (.tmp 7) (.tmp 25) rfl W2.heap.size cx rfl rfl 24 _ (Blk.new W2 _ _) HSz.out (by rw [HCl.out]; rfl) HOne.out ?_))
      have hg2 : w.heap.size + 2 ≤ W2.heap.size := HW2.out.lt
      have hW3 : PkW w s (.slice (some ad) qi c) ((W2.alloc (.cells (bs (List.replicate 32 0)) 24)).setRow W2.heap.size cx) := (HW2.out.keep ((Below.refl _ _).alloc (Nat.le_refl _) _)).row _ _ hg2
      refine world_cut (fun W => Blk W W2.heap.size 24 cx ∧ PkW w s (.slice (some ad) qi c) W) ⟨Blk.row (Blk.new W2 _ _) cx, hW3⟩ ?_
      rintro W3 ⟨hb3, hW3⟩
      obtain ⟨g, hg⟩ : ∃ g, g = W2.heap.size := ⟨_, rfl⟩
      rw [← hg] at hb3 hg2 ⊢
      have HW3 := Lib.hid hW3
      have HB3 := Lib.hid hb3
      have HG2 := Lib.hid hg2
      clear hb3 hW3 hg c1 HW2 hg2 hix HIx HLx
      go_wp2
      have hstart : PeakAt n w s (.slice (some ad) qi c) qs x g (.int .i64 z0) W3 := ⟨qs.length, z0, cx, Nat.le_refl _, by have := HZ0.out; have := HQ.out; omega, rfl, by rw [HCx.out, List.drop_length]; rfl, HB3.out, HW3.out⟩
      have HStart := Lib.hid hstart
      clear hstart HB3 HW3
      go_loopw [8] (fun s8 wr => PeakAt n w s (.slice (some ad) qi c) qs x g s8 wr) (fun s8 _ => (intOf s8 + 1).toNat)
      case atStart => exact HStart.out
      case round =>
        obtain ⟨i, z, ca, hi, hz, rfl, hca, hba, hpw⟩ := hrel
        have hacc32 : ((qs.drop i).foldr (nodeH n) x).length = 32 := fold_32 n _ x HX32.out
        have HCa := Lib.hid hca
        have HBa := Lib.hid hba
        have HPw := Lib.hid hpw
        have HAcc := Lib.hid hacc32
        have hiq : i ≤ q := by have := HQ.out; omega
        clear hca hba hpw hacc32 HStart hi
        by_cases h0 : i = 0
        · subst h0
          obtain rfl : z = -1 := by omega
          have hcf : ca = cf := by rw [HCa.out, HCf.out, List.drop_zero]
          subst hcf
          obtain ⟨h1, ⟨zs, h2, h3⟩, h4⟩ := HPw.out
          have H2 := Lib.hid h2
          have H3 := Lib.hid h3
          have H4 := Lib.hid h4
          have HSf := Lib.hid (size_hash HCf1.out)
          clear h1 h2 h3 h4 HPw hz
          go_wp2_with (first
            | (refine wpList_load_row rfl 24 (.tmp 7) rfl g rfl 24 ca (0, 0) _ HBa.out Tryd.underlying24 rfl HSf.out ?_)
            | (refine wpList_store_row rfl 24 (.tmp 4) (.tmp 40) rfl (w.heap.size + 1) ca rfl rfl 24 _ H2.out HSf.out (by rw [HCf1.out, H3.out]) HCf2.out ?_))
          exact bodyPost_ret (v := .tuple #[.agg ca, .int .i64 0]) (ret_hash rfl _ _ (w.heap.size + 1) ca _ HCf1.out rfl rfl (Blk.row H2.out ca)) rfl ⟨rfl, below_setRow H4.out _ _ (by omega)⟩
        · obtain ⟨j, rfl⟩ : ∃ j, i = j + 1 := ⟨i - 1, by omega⟩
          obtain rfl : z = (j : Int) := by omega
          have hjq : j < q := by omega
          obtain ⟨p, hp⟩ : ∃ p, qs[j]? = some p := ⟨qs[j]'(by have := HQ.out; omega), List.getElem?_eq_getElem _⟩
          have hp2 : (qs ++ [x])[j]? = some p := by rw [List.getElem?_append_left (by have := HQ.out; omega)]; exact hp
          have hp32 : p.length = 32 := HV.out.all.get hp2
          have HLp := Lib.hid (fun (W : World) (hW : Below w.heap.size w W) => load_hash W (ad.add (j * 32)) p hp32 fun j u hj => by
            obtain ⟨ad2, e, h⟩ := (HV.out.below (Nat.le_refl _) hW).load hp2
            cases e
            exact h j u hj)
          have hjqi : j < qi := by have := HQi.out; omega
          obtain ⟨A, hA⟩ : ∃ A, A = (qs.drop (j + 1)).foldr (nodeH n) x := ⟨_, rfl⟩
          have HNode := Lib.hid (fun (W : World) (hW : Below w.heap.size w W) => refnode_any n p A W hp32 (by rw [hA]; exact HAcc.out) HN.out (HK.out.below (Nat.le_refl _) hW))
          obtain ⟨cp, hcp, hcp1, _⟩ := hash_cells p hp32
          obtain ⟨cn, hcn, hcn1, hcn2⟩ := hash_cells (nodeH n p A) (nodeH_length _ _ _)
          have hcaA : ca = bs A := by rw [hA]; exact HCa.out
          rw [← hcp, ← hcaA, ← hcn] at HNode
          rw [← hcp] at HLp
          have hca1 : ca.size = 32 := by rw [hcaA, bs_size, hA]; exact HAcc.out
          have HSa := Lib.hid (size_hash hca1)
          have hnext : cn = bs ((qs.drop j).foldr (nodeH n) x) := by rw [hcn, fold_step n qs x p j hp, hA]
          have HNext := Lib.hid hnext
          have HSn := Lib.hid (size_hash hcn1)
          have HCn1 := Lib.hid hcn1
          have HCn2 := Lib.hid hcn2
          have HCa1 := Lib.hid hca1
          clear hp hp2 hp32 hA hcp hcp1 hcn hcn1 hcn2 hcaA hca1 hnext HCa HAcc hz h0
          go_upto_region 10 with fail
          have hG : ∀ W W' : World, (Blk W g 24 ca ∧ PkW w s (.slice (some ad) qi c) W) → Below W.heap.size W W' → (Blk W' g 24 ca ∧ PkW w s (.slice (some ad) qi c) W') := fun W W' h h' => ⟨h.1.keep h', h.2.keep h'⟩
          refine region_tail_by 8 _ [(32, .is (.int .i64 n)), (33, .is (.pointer (some ⟨w.heap.size, 1, none⟩))), (34, .is (.slice (some ad) qi c)), (35, .is (.int .i64 (j : Int))), (36, .is (.pointer (some (ad.add (j * 32))))), (37, .is (.agg cp)), (38, .is (.agg ca)), (39, .is (.agg cn))] [0, 1, 2, 3, 4, 5, 6, 7, 8, 9, 10, 11, 12, 13, 14, 15, 16, 17, 18, 19, 20, 21, 22, 23, 24, 25, 26, 27, 39, 40]
            (fun W => Blk W g 24 ca ∧ PkW w s (.slice (some ad) qi c) W) (by kernel_rfl) (by kernel_rfl) (by kernel_rfl) (by kernel_rfl) (by kernel_rfl) rfl rfl rfl rfl (by kernel_rfl) (hG _ _ ⟨HBa.out, HPw.out⟩ (Below.refl _ _).drew) ?_ ?_
          · refine ⟨?a0, ?a1, ?a2, ?a3, ?a4, ?a5, ?a6, ?a7, trivial⟩
            case a0 => exact ask_copy (guard_none rfl) (.tmp 0) (.inl rfl) (by intro k hk; cases hk; rfl)
            case a1 => exact ask_field (guard_none rfl) _ (.tmp 3) 1 (.pointer (some ⟨w.heap.size, 0, none⟩)) (.pointer (some ⟨w.heap.size, 1, none⟩)) rfl rfl (by intro k hk; cases hk; rfl) (fun W => by kernel_rfl)
            case a2 => exact ask_load (guard_none rfl) _ (.tmp 33) (.pointer (some ⟨w.heap.size, 1, none⟩)) (.slice (some ad) qi c) rfl rfl (by intro k hk; cases hk; rfl) (fun W hW => load_hl W _ _ (by rw [hW.2.1.cell]; rfl))
            case a3 => exact ask_copy (guard_none rfl) (.tmp 8) (.inl rfl) (by intro k hk; cases hk; rfl)
            case a4 => exact ask_idx (guard_none rfl) _ (.tmp 34) (.tmp 35) (.slice (some ad) qi c) (.int .i64 (j : Int)) (.pointer (some (ad.add (j * 32)))) rfl rfl rfl (by intro k hk; cases hk; rfl) (fun W => hss_index W ad qi c j hjqi)
            case a5 => exact ask_load (guard_none rfl) _ (.tmp 36) (.pointer (some (ad.add (j * 32)))) (.agg cp) rfl rfl (by intro k hk; cases hk; rfl) (fun W hW => HLp.out W hW.2.2.2)
            case a6 => exact ask_load (guard_none rfl) _ (.tmp 7) (.pointer (some ⟨g, 0, none⟩)) (.agg ca) rfl rfl (by intro k hk; cases hk; rfl) (fun W hW => hW.1.loads 24 _ Tryd.underlying24 rfl HSa.out)
            case a7 => exact ask_call hG (guard_none rfl) _ _ _ #[.int .i64 n, .agg cp, .agg ca] (.is (.agg cn)) rfl (by kernel_rfl) rfl rfl (by intro k hk; cases hk; rfl) (fun W hW => (HNode.out W hW.2.2.2).mono fun e w' h => ⟨_, h.1, rfl, h.2⟩)
          · intro a' W hW hd' hs' hf'
            have t0 : a'.tmps.getD 0 undef = .int .i64 n := hf' 0 rfl
            have t1 : a'.tmps.getD 1 undef = .agg (rngC s (.slice (some ad) qi c)) := hf' 1 rfl
            have t2 : a'.tmps.getD 2 undef = undef := hf' 2 rfl
            have t3 : a'.tmps.getD 3 undef = .pointer (some ⟨w.heap.size, 0, none⟩) := hf' 3 rfl
            have t4 : a'.tmps.getD 4 undef = .pointer (some ⟨w.heap.size + 1, 0, none⟩) := hf' 4 rfl
            have t5 : a'.tmps.getD 5 undef = .int .i64 0 := hf' 5 rfl
            have t6 : a'.tmps.getD 6 undef = .int .i64 (qi : Int) := hf' 6 rfl
            have t7 : a'.tmps.getD 7 undef = .pointer (some ⟨g, 0, none⟩) := hf' 7 rfl
            have t8 : a'.tmps.getD 8 undef = .int .i64 (j : Int) := hf' 8 rfl
            have t9 : a'.tmps.getD 9 undef = .agg (rngC s (.slice (some ad) qi c)) := hf' 9 rfl
            have t10 : a'.tmps.getD 10 undef = .bool true := hf' 10 rfl
            have t11 : a'.tmps.getD 11 undef = .bool false := hf' 11 rfl
            have t12 : a'.tmps.getD 12 undef = undef := hf' 12 rfl
            have t13 : a'.tmps.getD 13 undef = .pointer (some ⟨w.heap.size, 1, none⟩) := hf' 13 rfl
            have t14 : a'.tmps.getD 14 undef = .slice (some ad) qi c := hf' 14 rfl
            have t15 : a'.tmps.getD 15 undef = .int .i64 (qi : Int) := hf' 15 rfl
            have t16 : a'.tmps.getD 16 undef = .int .i64 (qi : Int) := hf' 16 rfl
            have t17 : a'.tmps.getD 17 undef = .bool false := hf' 17 rfl
            have t18 : a'.tmps.getD 18 undef = undef := hf' 18 rfl
            have t19 : a'.tmps.getD 19 undef = undef := hf' 19 rfl
            have t20 : a'.tmps.getD 20 undef = .pointer (some ⟨w.heap.size, 1, none⟩) := hf' 20 rfl
            have t21 : a'.tmps.getD 21 undef = .slice (some ad) qi c := hf' 21 rfl
            have t22 : a'.tmps.getD 22 undef = .int .i64 (qi : Int) := hf' 22 rfl
            have t23 : a'.tmps.getD 23 undef = .int .i64 (q : Int) := hf' 23 rfl
            have t24 : a'.tmps.getD 24 undef = .pointer (some (ad.add (q * 32))) := hf' 24 rfl
            have t25 : a'.tmps.getD 25 undef = .agg cx := hf' 25 rfl
            have t26 : a'.tmps.getD 26 undef = .int .i64 (qi : Int) := hf' 26 rfl
            have t27 : a'.tmps.getD 27 undef = .int .i64 z0 := hf' 27 rfl
            have t39 : a'.tmps.getD 39 undef = .agg cn := hf' 39 rfl
            have t40 : a'.tmps.getD 40 undef = undef := hf' 40 rfl
            obtain ⟨us', hus, ha'⟩ := act_open 41 a' hs' hd'
            rw [← hus] at t0 t1 t2 t3 t4 t5 t6 t7 t8 t9 t10 t11 t12 t13 t14 t15 t16 t17 t18 t19 t20 t21 t22 t23 t24 t25 t26 t27 t39 t40
            have el : ((List.range 41).map us').toArray = #[.int .i64 n, .agg (rngC s (.slice (some ad) qi c)), undef, .pointer (some ⟨w.heap.size, 0, none⟩), .pointer (some ⟨w.heap.size + 1, 0, none⟩), .int .i64 0, .int .i64 (qi : Int), .pointer (some ⟨g, 0, none⟩), .int .i64 (j : Int), .agg (rngC s (.slice (some ad) qi c)), .bool true, .bool false, undef, .pointer (some ⟨w.heap.size, 1, none⟩), .slice (some ad) qi c, .int .i64 (qi : Int), .int .i64 (qi : Int), .bool false, undef, undef, .pointer (some ⟨w.heap.size, 1, none⟩), .slice (some ad) qi c, .int .i64 (qi : Int), .int .i64 (q : Int), .pointer (some (ad.add (q * 32))), .agg cx, .int .i64 (qi : Int), .int .i64 z0, us' 28, us' 29, us' 30, us' 31, us' 32, us' 33, us' 34, us' 35, us' 36, us' 37, us' 38, .agg cn, undef] := by
              show #[us' 0, us' 1, us' 2, us' 3, us' 4, us' 5, us' 6, us' 7, us' 8, us' 9, us' 10, us' 11, us' 12, us' 13, us' 14, us' 15, us' 16, us' 17, us' 18, us' 19, us' 20, us' 21, us' 22, us' 23, us' 24, us' 25, us' 26, us' 27, us' 28, us' 29, us' 30, us' 31, us' 32, us' 33, us' 34, us' 35, us' 36, us' 37, us' 38, us' 39, us' 40] = _
              rw [t0, t1, t2, t3, t4, t5, t6, t7, t8, t9, t10, t11, t12, t13, t14, t15, t16, t17, t18, t19, t20, t21, t22, t23, t24, t25, t26, t27, t39, t40]
            rw [el] at ha'
            subst ha'
            clear hus t0 t1 t2 t3 t4 t5 t6 t7 t8 t9 t10 t11 t12 t13 t14 t15 t16 t17 t18 t19 t20 t21 t22 t23 t24 t25 t26 t27 t39 t40 el hf' hs' hd'
            have HB5 := Lib.hid hW.1
            have HP5 := Lib.hid hW.2
            clear hW hG
            go_wp2_with (refine wpList_store_row rfl 24 (.tmp 7) (.tmp 39) rfl g cn rfl rfl 24 _ HB5.out HSn.out (by rw [HCn1.out, HCa1.out]) HCn2.out ?_)
            have hend : PeakAt n w s (.slice (some ad) qi c) qs x g (.int .i64 ((j : Int) - 1)) (W.setRow g cn) := ⟨j, _, cn, by have := HQ.out; omega, rfl, rfl, HNext.out, Blk.row HB5.out cn, HP5.out.row _ _ HG2.out⟩
            have HEnd := Lib.hid hend
            clear hend
            obtain ⟨z1, hz1⟩ : ∃ z : Int, (j : Int) - 1 = z := ⟨_, rfl⟩
            rw [hz1] at HEnd
            have hz1b : -1 ≤ z1 ∧ z1 ≤ 4398046511104 := by omega
            have hz1c : z1 + 1 = (j : Int) := by omega
            go_wp2
            go_roundw
            case rel => rw [hz1]; exact HEnd.out
            case measure => simp [intOf]
  · have hpk : peakR n s ps = (List.replicate 32 0, 1) := by rw [peakR, if_neg (by omega)]
    rw [hpk]
    have e1 : decide (m = ones s) = false := by simpa using hr
    rw [e1] at HR
    rw [← hz32]
    clear hv hk hn hm hs hr hpk hz1 hz2 e1 hl
    go_enter Tryd.func27, Tryd.ntmps27
    go_upto_region 1 with fail
    refine world_cut (fun W => PkW w s (.slice a m c) W) HP.out ?_
    clear HP
    intro W1 hW1
    have HW1 := Lib.hid hW1
    have HZe := Lib.hid hz32
    clear hW1 hz32
    go_wp2_with (refine wpList_load_row rfl 36 (.tmp 3) rfl w.heap.size rfl 36 (rngC s (.slice a m c)) (0, 0) _ HW1.out.1 Tryd.underlying36 rfl (size_rng _ _) ?_)
    refine (HR.out _).mono ?_
    rintro e W2 ⟨rfl, hb2⟩
    have hW2 := HW1.out.keep hb2
    obtain ⟨h1, ⟨zs, h2, h3⟩, h4⟩ := hW2
    have H2 := Lib.hid h2
    have H3 := Lib.hid h3
    have H4 := Lib.hid h4
    clear hb2 h1 h2 h3 h4 HW1 HR
    go_wp2_with (refine wpList_store_row rfl 24 (.tmp 4) (.tmp 12) rfl (w.heap.size + 1) z32 rfl (by rw [HZe.out]; rfl) 24 _ H2.out HZ.out (by rw [HZ1.out, H3.out]) HZ2.out ?_)
    exact bodyPost_ret (v := .tuple #[.agg z32, .int .i64 1]) (ret_hash rfl _ _ (w.heap.size + 1) z32 _ HZ1.out rfl rfl (Blk.row H2.out z32)) rfl ⟨rfl, below_setRow H4.out _ _ (by omega)⟩
end Go.Proofs.YtdhfabjkpffhnaaDoor

/- Push: what it answers; its memory. -/
namespace Go.Proofs.YtdhfabjkpffhnaaDoor
set_option maxRecDepth 20000
open Go.RowKit ShaMath LeafMath Reg

/-- In the midst of Push. -/
def PuW (w : World) (s : Nat) (v : Value) (h : Hs) (W : World) : Prop := Blk W w.heap.size 36 (rngC s v) ∧ Blk W (w.heap.size + 1) 24 (bs h) ∧ (∃ zs, Blk W (w.heap.size + 2) 36 zs ∧ zs.size = 2) ∧ Below w.heap.size w W
theorem PuW.new (w : World) (s : Nat) (v : Value) (h : Hs) : PuW w s v h (((w.alloc (.cells (rngC s v) 36)).alloc (.cells (bs h) 24)).alloc (.cells (rngC 0 (.slice none 0 0)) 36)) :=
  ⟨((Blk.new w _ _).alloc _).alloc _, (Blk.newAt _ _ _ _ _ (by simp) rfl).alloc _, ⟨_, Blk.newAt _ _ _ _ _ (by simp) rfl, rfl⟩, (((Below.refl _ _).alloc (Nat.le_refl _) _).alloc (by simp) _).alloc (by simp; omega) _⟩
theorem PuW.lt {w W : World} {s : Nat} {v : Value} {h : Hs} (H : PuW w s v h W) : w.heap.size + 3 ≤ W.heap.size := by
  obtain ⟨h1, h0, ⟨zs, h2, h3⟩, h4⟩ := H
  exact h2.lt
theorem PuW.far {w W W' : World} {s : Nat} {v : Value} {h : Hs} (H : PuW w s v h W) (hb : Below (w.heap.size + 3) W W') : PuW w s v h W' := by
  obtain ⟨h1, h0, ⟨zs, h2, h3⟩, h4⟩ := H
  exact ⟨h1.below (by omega) hb, h0.below (by omega) hb, ⟨zs, h2.below (by omega) hb, h3⟩, h4.trans (hb.mono (by omega))⟩
theorem PuW.keep {w W W' : World} {s : Nat} {v : Value} {h : Hs} (H : PuW w s v h W) (hb : Below W.heap.size W W') : PuW w s v h W' := H.far (hb.mono H.lt)
theorem PuW.grown {w W W' : World} {s : Nat} {v : Value} {h : Hs} (H : PuW w s v h W) {row : Option Nat} (hg : W.grownBy W' row) (hrow : ∀ k, row = some k → w.heap.size + 3 ≤ k) : PuW w s v h W' :=
  H.far ((Below.refl _ _).grown hg H.lt hrow)

theorem rng_one (s : Nat) (a : Option Addr) (n c : Nat) : (rngC s (.slice a n c)).all (·.oneCell') = true := by simp [Value.oneCell']

/-- What Push answers. -/
def pushR (n : Int) (s : Nat) (ps : List Hs) (h : Hs) : (Nat × List Hs) × Nat := if ps.length = ones s ∧ s < 9223372036854775808 then ((s + 1, merge n s ps h), 0) else ((0, []), 1)

theorem sliced_zero (a : Option Addr) (k c : Nat) : sliced a 0 k c 32 = .slice a k c := by
  unfold sliced
  have : a.map (fun x : Addr => x.add (0 * 32)) = a := by cases a <;> simp [Addr.add]
  rw [this]
  simp
theorem OHs.take {w : World} {B n c i : Nat} {a : Option Addr} {hs : List Hs} (h : OHs w B (.slice a n c) hs) (hi : i ≤ hs.length) : OHs w B (.slice a i c) (hs.take i) := by
  obtain ⟨h0, h1, h2⟩ := h
  refine ⟨h0.take i, by rw [hcells_len (h0.take i)], ?_⟩
  have hl : (hs.take i).length = i := by rw [List.length_take]; omega
  rw [hl]
  rcases h2 with ⟨h3, h4⟩ | ⟨g, cap, cur, h3, h4, h5, h6, h7, h8, h9⟩
  · cases h3
    obtain rfl : i = 0 := by omega
    exact .inl ⟨rfl, rfl⟩
  · cases h3
    refine .inr ⟨g, c, cur, rfl, h4, h5, by omega, h7, h8, ?_⟩
    rw [← hcells_take h0, ← h9, List.take_take, Nat.min_eq_left (Nat.mul_le_mul_right _ hi)]
theorem OHs.form {w : World} {B : Nat} {v : Value} {hs : List Hs} (h : OHs w B v hs) (hn : 0 < hs.length) : ∃ g c, v = .slice (some ⟨g, 0, Option.none⟩) hs.length c ∧ hs.length ≤ c ∧ B ≤ g := by
  rcases h.2.2 with ⟨rfl, h0⟩ | ⟨g, cap, cur, rfl, hB, _, hc, _⟩
  · omega
  · exact ⟨g, cap, rfl, hc, hB⟩

theorem merge_32 (n : Int) : ∀ (m : Nat) (ps : List Hs) (h : Hs), All32 ps → h.length = 32 → All32 (merge n m ps h) := by
  intro m
  induction m using Nat.strongRecOn with
  | ind m ih =>
    intro ps h hp hh
    by_cases ho : m % 2 = 1
    · rw [merge_odd n m ps h ho]
      exact ih (m / 2) (by omega) _ _ (fun x hx => hp x (List.dropLast_subset _ hx)) (nodeH_length _ _ _)
    · rw [merge_even n m ps h (by omega)]
      exact hp.append (All32.one hh)

end Go.Proofs.YtdhfabjkpffhnaaDoor

