/- copied: the same files in memory of their own, in whatever order the map gives them. -/
import Derived.Test.YtboongdoggggoaaDiskKept
import Derived.Maps.RangeWalk
namespace Go.Proofs.Ytboongdoggggoaa
set_option maxRecDepth 20000
open Go.RowKit Go.Maps DiskMath Reg

theorem grown_below {w w' : World} (h : Below w.heap.size w w') : w.grownBy w' none := ⟨h.os, h.tape, h.output, h.size, fun k hk _ => h.block k hk⟩
theorem grown_only {w w' : World} {m : Nat} (h : OnlyS (fun k => k = m) w w') : w.grownBy w' (some m) := ⟨h.os, h.tape, h.output, h.size, fun k hk hne => h.block k hk fun e => hne (by rw [e])⟩

theorem eq_of_get {α : Type} {l l' : List (Nm × α)} (h : Rise l) (h' : Rise l') (hg : ∀ n, getA n l = getA n l') : l = l' := by
  refine eq_of_rise h h' fun p => ⟨fun hp => ?_, fun hp => ?_⟩
  · have := getA_of_mem h (show (p.1, p.2) ∈ l from hp)
    rw [hg] at this
    exact getA_mem this
  · have := getA_of_mem h' (show (p.1, p.2) ∈ l' from hp)
    rw [← hg] at this
    exact getA_mem this

/-- What has been copied: those that are no longer to come. -/
structure CopyAt (w : World) (m m' r g2 g3 : Nat) (F : Gf) (T : Int) (left : Lit → Bool) (cnt : Nat) (F' : Gf) (wr : World) : Prop where
  rng : wr.ranges Try.prog 9 tokR m r F.length (encD F) left cnt
  keep : Keep wr m' F'
  get : ∀ n, getA n (pr F') = if left (.string n) then none else getA n (pr F)
  new : ∀ k, foot F' k → w.heap.size ≤ k
  few : F'.length + cnt ≤ F.length
  g3b : Blk wr g3 120 #[.map (some m'), .int .i64 T]
  g2b : Blk wr g2 120 #[.map none, .int .i64 0]
  bel : Below w.heap.size w wr

theorem load_map (W : World) (p : Addr) (v : Value) (h : W.cell? p = some v) : (Instr.loadAt 118 (.pointer (some p))).run Try.prog W = .ok v W := by
  have hagg : (isAgg 118).run Try.prog W = .ok false W := by kernel_rfl
  simp [Instr.loadAt, Instr.sureAddr, loadVar, Sem.run_bind, hagg, h]
theorem load_int (W : World) (p : Addr) (v : Value) (h : W.cell? p = some v) : (Instr.loadAt 3 (.pointer (some p))).run Try.prog W = .ok v W := by
  have hagg : (isAgg 3).run Try.prog W = .ok false W := by kernel_rfl
  simp [Instr.loadAt, Instr.sureAddr, loadVar, Sem.run_bind, hagg, h]

theorem run_make (W : World) (k : Int) : (Instr.makeMap 118 (some (.int .i64 k))).run Try.prog W = .ok (.map (some W.heap.size)) (W.alloc (.map #[] 0)) := by
  simp [Instr.makeMap, run_underlying Try.underlying118, asInt, asIntOf, Result.andThen]

set_option maxHeartbeats 1000000 in
theorem copied_any {w : World} {d o m : Nat} {F : Gf} {T : Int} (c0 : w.cell? ⟨d, o, none⟩ = some (.map (some m))) (c1 : w.cell? ⟨d, o + 1, none⟩ = some (.int .i64 T)) (hk : Keep w m F) (hf : Fit (pr F)) (hl : F.length ≤ 4095) :
    Calls Try.prog 77 #[fp d o] w fun e w' => ∃ m' F', e = .returned (.agg #[.map (some m'), .int .i64 T]) ∧ Keep w' m' F' ∧ pr F' = pr F ∧ (∀ k, foot F' k → w.heap.size ≤ k) ∧ w.heap.size ≤ m' ∧ Below w.heap.size w w' := by
  have hd := World.block_lt_of_cell? w ⟨d, o, none⟩ c0
  have C0 := Lib.hid c0
  have C1 := Lib.hid c1
  have HK := Lib.hid hk
  have HF := Lib.hid hf
  clear hk c0 c1 hf
  go_enter Try.func77, Try.ntmps77
  go_wp2
  obtain ⟨w1, hw1⟩ : ∃ w1, w1 = w.alloc (.cells #[.map none, .int .i64 0] 120) := ⟨_, rfl⟩
  have hb1 : Below w.heap.size w w1 := by rw [hw1]; exact (Below.refl _ _).alloc (Nat.le_refl _) _
  have hg2 : Blk w1 w.heap.size 120 #[.map none, .int .i64 0] := by rw [hw1]; exact Blk.new w _ _
  rw [← hw1]
  have HB1 := Lib.hid hb1
  have HG2 := Lib.hid hg2
  clear hb1 hg2 hw1
  have hG : ∀ W W' : World, Below w1.heap.size w1 W → Below W.heap.size W W' → Below w1.heap.size w1 W' := fun W W' h h' => h.trans (h'.mono h.size)
  refine region_tail_by 12 _ [(6, .is (fp d o)), (7, .is (fp d o)), (8, .is (fp d o)), (9, .is (.map (some m))), (10, .is (.int .i64 (F.length : Int))), (11, .sat (fun u W => ∃ m', u = .map (some m') ∧ Keep W m' [] ∧ w1.heap.size ≤ m') (fun u W W' ⟨m', h1, h2, h3⟩ hb => ⟨m', h1, h2.below hb, h3⟩)), (12, .is (fp d o)), (13, .is (fp d o)), (14, .is (.pointer (some ⟨d, o + 1, none⟩))), (15, .is (.int .i64 T)),
    (16, .sat (fun u W => ∃ m', u = .agg #[.map (some m'), .int .i64 T] ∧ Keep W m' [] ∧ w1.heap.size ≤ m') (fun u W W' ⟨m', h1, h2, h3⟩ hb => ⟨m', h1, h2.below hb, h3⟩)), (3, .sat (fun u W => ∃ g, u = .pointer (some ⟨g, 0, none⟩) ∧ Blk W g 120 #[.map none, .int .i64 0] ∧ w1.heap.size ≤ g) (fun u W W' ⟨g, h1, h2, h3⟩ hb => ⟨g, h1, h2.keep hb, h3⟩))] [0, 2, 3, 16]
    (fun W => Below w1.heap.size w1 W) (by kernel_rfl) (by kernel_rfl) (by kernel_rfl) (by kernel_rfl) (by kernel_rfl) rfl rfl rfl rfl (by kernel_rfl) (Below.refl _ _).drew ?_ ?_
  · refine ⟨?c0, ?c1, ?c2, ?c3, ?c4, ?c5, ?c6, ?c7, ?c8, ?c9, ?c10, ?c11, trivial⟩
    case c0 => exact ask_copy (guard_none rfl) (.tmp 0) (.inl rfl) (by intro k hk; cases hk; rfl)
    case c1 => exact ask_exec (guard_none rfl) (fp d o) rfl rfl (by intro k hk; cases hk; rfl) (fun W hW => by kernel_rfl)
    case c2 => exact ask_field (guard_none rfl) _ (.tmp 7) 0 (fp d o) (fp d o) rfl rfl (by intro k hk; cases hk; rfl) (fun W => by kernel_rfl)
    case c3 => exact ask_load (guard_none rfl) _ (.tmp 8) (fp d o) (.map (some m)) rfl rfl (by intro k hk; cases hk; rfl) (fun W hW => load_map W _ _ (by rw [hW.cell (Nat.lt_of_lt_of_le hd HB1.out.size), HB1.out.cell hd]; exact C0.out))
    case c4 => exact ask_val (guard_none rfl) (.int .i64 (F.length : Int)) (by intro k hk; cases hk; rfl) (fun x W hW hk => by
      have e9 : x 9 = .map (some m) := hk 9 rfl
      have hr := ((HK.out.below HB1.out).below hW).map.len Try.underlying118 3
      rw [encD_size] at hr
      simp [execOp, evalBy, resolve, invoke, builtin, e9, hr, Result.andThen])
    case c5 => exact ask_grow hG (guard_none rfl) (fun x W hW hk => by
      have e10 : x 10 = .int .i64 (F.length : Int) := hk 10 rfl
      refine gives_value (v := .map (some W.heap.size)) (w' := W.alloc (.map #[] 0)) ?_ ⟨(Below.refl _ _).alloc (Nat.le_refl _) _, fun k hk => by cases hk; exact ⟨_, rfl, keep_new W, hW.size⟩⟩
      simp [execOp, evalBy, e10, run_make, Result.andThen])
    case c6 => exact ask_copy (guard_none rfl) (.tmp 0) (.inl rfl) (by intro k hk; cases hk; rfl)
    case c7 => exact ask_exec (guard_none rfl) (fp d o) rfl rfl (by intro k hk; cases hk; rfl) (fun W hW => by kernel_rfl)
    case c8 => exact ask_field (guard_none rfl) _ (.tmp 13) 1 (fp d o) (.pointer (some ⟨d, o + 1, none⟩)) rfl rfl (by intro k hk; cases hk; rfl) (fun W => by kernel_rfl)
    case c9 => exact ask_load (guard_none rfl) _ (.tmp 14) (.pointer (some ⟨d, o + 1, none⟩)) (.int .i64 T) rfl rfl (by intro k hk; cases hk; rfl) (fun W hW => load_int W _ _ (by rw [hW.cell (p := ⟨d, o + 1, none⟩) (Nat.lt_of_lt_of_le hd HB1.out.size), HB1.out.cell (p := ⟨d, o + 1, none⟩) hd]; exact C1.out))
    case c10 => exact ask_grow hG (guard_none rfl) (fun x W hW hk => by
      obtain ⟨m', e11, h1, h2⟩ : ∃ m', x 11 = .map (some m') ∧ Keep W m' [] ∧ w1.heap.size ≤ m' := hk 11 rfl
      have e15 : x 15 = .int .i64 T := hk 15 rfl
      refine gives_value (v := .agg #[.map (some m'), .int .i64 T]) (w' := W) ?_ ⟨Below.refl _ _, fun k hk => by cases hk; exact ⟨m', rfl, h1, h2⟩⟩
      have hr : (Instr.build 120 #[(0, .map (some m')), (1, .int .i64 T)]).run Try.prog W = .ok (.agg #[.map (some m'), .int .i64 T]) W := by kernel_rfl
      simp [execOp, evalBy, e11, e15, hr, Result.andThen])
    case c11 => exact ask_alloc hG (guard_none rfl) _ (.agg #[.map none, .int .i64 0]) (.sat (fun u W => ∃ g, u = .pointer (some ⟨g, 0, none⟩) ∧ Blk W g 120 #[.map none, .int .i64 0] ∧ w1.heap.size ≤ g) (fun u W W' ⟨g, h1, h2, h3⟩ hb => ⟨g, h1, h2.keep hb, h3⟩)) rfl (fun W => by kernel_rfl) (by intro k hk; cases hk; rfl) (fun W hW => ⟨_, rfl, Blk.new W _ _, hW.size⟩)
  · intro a' W hW hd' hs' hf'
    have t0 : a'.tmps.getD 0 undef = fp d o := hf' 0 rfl
    have t2 : a'.tmps.getD 2 undef = .pointer (some ⟨w.heap.size, 0, none⟩) := hf' 2 rfl
    obtain ⟨g3, t3, hg3, hn3⟩ : ∃ g, a'.tmps.getD 3 undef = .pointer (some ⟨g, 0, none⟩) ∧ Blk W g 120 #[.map none, .int .i64 0] ∧ w1.heap.size ≤ g := hf' 3 rfl
    obtain ⟨m', t16, hm', hnm⟩ : ∃ m', a'.tmps.getD 16 undef = .agg #[.map (some m'), .int .i64 T] ∧ Keep W m' [] ∧ w1.heap.size ≤ m' := hf' 16 rfl
    obtain ⟨us, hus, ha'⟩ := act_open 33 a' hs' hd'
    rw [← hus] at t0 t2 t3 t16
    have el : ((List.range 33).map us).toArray = #[us 0, us 1, us 2, us 3, us 4, us 5, us 6, us 7, us 8, us 9, us 10, us 11, us 12, us 13, us 14, us 15, us 16, us 17, us 18, us 19, us 20, us 21, us 22, us 23, us 24, us 25, us 26, us 27, us 28, us 29, us 30, us 31, us 32] := rfl
    rw [el] at ha'
    subst ha'
    rw [t0, t2, t3, t16]
    have HWb := Lib.hid hW
    have HG3 := Lib.hid hg3
    have HM := Lib.hid hm'
    clear hus t0 t2 t3 t16 el hf' hs' hd' hW hg3 hm' hG
    refine wpList_store_row rfl 120 (.tmp 3) (.tmp 16) rfl g3 #[.map (some m'), .int .i64 T] rfl rfl 120 _ HG3.out (by kernel_rfl) rfl (by simp [Value.oneCell']) ?_
    obtain ⟨W2, hW2⟩ : ∃ W2, W2 = W.setRow g3 #[.map (some m'), .int .i64 T] := ⟨_, rfl⟩
    have hs1 := HB1.out.size
    have hbel2 : Below w.heap.size w W2 := by rw [hW2]; exact below_setRow (HB1.out.trans (HWb.out.mono hs1)) g3 _ (by omega)
    have hg32 : Blk W2 g3 120 #[.map (some m'), .int .i64 T] := by rw [hW2]; exact Blk.row HG3.out _
    have hg2lt : w.heap.size < w1.heap.size := HG2.out.lt
    have hg22 : Blk W2 w.heap.size 120 #[.map none, .int .i64 0] := by rw [hW2]; exact Blk.rowOther (HG2.out.keep HWb.out) _ (by omega)
    have hm2 : Keep W2 m' [] := by rw [hW2]; exact HM.out.same (setRow_other W g3 m' _ (HM.out.ne_blk HG3.out)) fun k ⟨p, hp, _⟩ => by cases hp
    rw [← hW2]
    have HBel2 := Lib.hid hbel2
    have HG32 := Lib.hid hg32
    have HG22 := Lib.hid hg22
    have HM2 := Lib.hid hm2
    have hm2l := hm2.lt
    have hg3l := hg32.lt
    have c2 : W2.cell? ⟨d, o, none⟩ = some (.map (some m)) := by rw [hbel2.cell hd]; exact C0.out
    have hml := HK.out.lt
    have hownW := (HK.out.below hbel2).map
    have HOwn := Lib.hid hownW
    clear hW2 hbel2 hg32 hg22 hm2 hownW HG3 HM
    go_wp2_with (first
      | (at_range; refine wpList_range_own _ rfl _ 118 rfl 9 22 klaw Try.underlying118 _ m F.length _ rfl HOwn.out ?_; intro w0 hrg0 hg0 hs0)
      | go_in)
    go_frame
    obtain ⟨r, hr⟩ : ∃ r, r = W2.heap.size := ⟨_, rfl⟩
    rw [← hr] at hrg0 ⊢
    have hb0 : Below W2.heap.size W2 w0 := ⟨hg0.os, hg0.tape, hg0.output, hg0.size, fun k hk => hg0.block k hk (by simp)⟩
    have hs2 := HBel2.out.size
    have HStart : Hid (CopyAt w m m' r w.heap.size g3 F T (Maps.has (encD F)) (Maps.size (encD F)) [] w0) := {
      rng := hrg0
      keep := HM2.out.below hb0
      get := fun n => by
        have h : getA n (pr F) = (getA n F).map (·.2) := pr_get F n
        rw [encD_has, h]
        show (none : Option (List UInt8)) = _
        cases getA n F <;> simp
      new := fun k ⟨p, hp, _⟩ => by cases hp
      few := by rw [encD_size]; simp
      g3b := HG32.out.keep hb0
      g2b := HG22.out.keep hb0
      bel := HBel2.out.trans (hb0.mono hs2) }
    have hrw : w.heap.size ≤ r := by omega
    have hm'r : m' ≠ r := by omega
    have hg3r : g3 ≠ r := by omega
    have hg2r : w.heap.size ≠ r := by omega
    have hmr : m ≠ r := by omega
    have hmm' : m ≠ m' := by omega
    clear hrg0 hg0 hb0 c2 HOwn hs0 hr
    go_loopw [4] (fun _ wr => ∃ left cnt F', CopyAt w m m' r w.heap.size g3 F T left cnt F' wr) (fun _ wr => wr.rangeLeft m r)
    case atStart => exact ⟨_, _, _, HStart.out⟩
    case round =>
      obtain ⟨left, cnt, F', hcp⟩ := hrel
      have HCp := Lib.hid hcp
      clear hcp
      go_wp2_with (first
        | (at_next; refine wpList_next_ranges _ rfl _ rfl 9 klaw tokR nm (fun v : Value => v) (fun key kl hkey => by obtain ⟨x, hx, _⟩ := Maps.keyOf_str Try.underlying9 hkey; exact ⟨x, hx⟩) (fun v y _ => ⟨v, rfl⟩) m r F.length _ _ _ rfl HCp.out.rng ?_ ?_)
        | go_in)
      · intro hc0 hl0
        have hpr : pr F' = pr F := eq_of_get HCp.out.keep.riseP HK.out.riseP fun n => by rw [HCp.out.get, hl0]; simp
        have e0 : wr.cell? ⟨g3, 0, none⟩ = some (.map (some m')) := by rw [Blk.cell HCp.out.g3b]; rfl
        have e1 : wr.cell? ⟨g3, 1, none⟩ = some (.int .i64 T) := by rw [Blk.cell HCp.out.g3b]; rfl
        have HEnd : Hid (∃ F', Keep (wr.setRow w.heap.size #[.map (some m'), .int .i64 T]) m' F' ∧ pr F' = pr F ∧ (∀ k, foot F' k → w.heap.size ≤ k) ∧ w.heap.size ≤ m' ∧ Below w.heap.size w (wr.setRow w.heap.size #[.map (some m'), .int .i64 T])) :=
          ⟨F', HCp.out.keep.same (setRow_other wr w.heap.size m' _ (HCp.out.keep.ne_blk HCp.out.g2b)) (fun k hf => setRow_other wr w.heap.size k _ (foot_ne HCp.out.keep HCp.out.g2b (by decide) hf)), hpr, HCp.out.new, by omega, below_setRow HCp.out.bel _ _ (Nat.le_refl _)⟩
        have HG2e := Lib.hid HCp.out.g2b
        clear hl0 hpr hc0
        go_wp2_with (first
          | (refine wpList_store_row rfl 120 (.tmp 2) (.tmp 32) rfl w.heap.size #[.map (some m'), .int .i64 T] rfl rfl 120 _ HG2e.out (by kernel_rfl) rfl (by simp [Value.oneCell']) ?_)
          | go_in)
        obtain ⟨F'', h2⟩ := HEnd.out
        exact bodyPost_ret (v := .agg #[.map (some m'), .int .i64 T]) (results_cell_row rfl _ _ w.heap.size 120 #[.map (some m'), .int .i64 T] (0, 0) _ rfl (Blk.row HG2e.out _) Try.underlying120 rfl (by kernel_rfl)) rfl ⟨m', F'', rfl, h2⟩
      · intro x c kl yd yp w2 cnt2 hkey hlk hv hat hrg2 hlt2 hg2' hs2' hen
        obtain ⟨x', ex, rfl, hxl⟩ := Maps.keyOf_str Try.underlying9 hkey
        obtain rfl : x = x' := encStr_inj ex
        have hyd : yd = .held c := by
          unfold tokR at hv
          simp at hv
          exact hv.1.symm
        obtain ⟨t, hgt⟩ : ∃ t, getA x F = some (c, t) := by
          have h := hat .nil
          rw [encD_at, hyd] at h
          cases hg : getA x F with
          | none => rw [hg] at h; simp at h
          | some y =>
            rw [hg] at h
            simp at h
            exact ⟨y.2, by rw [← h]⟩
        have hrow0 := HK.out.row _ (getA_mem hgt)
        simp only at hrow0
        have hbw2 : Below w.heap.size w w2 := HCp.out.bel.grown hg2' HCp.out.bel.size (fun j hj => by cases hj; exact hrw)
        have hrow2 : Row w2 0 c t := hrow0.below hbw2
        obtain ⟨ca, cc, rfl⟩ := slice_of_row hrow2
        have ht8 : t.length ≤ 8388608 := (HF.out _ (getA_mem (pr_some hgt))).2
        have hx16 : x.length ≤ 16 := (HF.out _ (getA_mem (pr_some hgt))).1
        have hkeep2 : Keep w2 m' F' := HCp.out.keep.same (hg2'.block m' HCp.out.keep.lt (by simpa using hm'r)) fun k hf => hg2'.block k (HCp.out.keep.foot_lt hf) fun e => by
          obtain ⟨p, hp, h1⟩ := hf
          obtain ⟨cur, hc⟩ := (HCp.out.keep.row p hp).block h1
          obtain ⟨es, clock, since, seen, c0, _, _, _, _, hr', _⟩ := HCp.out.rng
          simp at e
          rw [e, hr'] at hc
          cases hc
        have hg32' : Blk w2 g3 120 #[.map (some m'), .int .i64 T] := by
          have h := HCp.out.g3b
          unfold Blk at h ⊢
          rw [hg2'.block g3 (Array.getElem?_eq_some_iff.1 h).1 (by simpa using hg3r)]
          exact h
        have hg22' : Blk w2 w.heap.size 120 #[.map none, .int .i64 0] := by
          have h := HCp.out.g2b
          unfold Blk at h ⊢
          rw [hg2'.block w.heap.size (Array.getElem?_eq_some_iff.1 h).1 (by simpa using hg2r)]
          exact h
        have HK2 := Lib.hid hkeep2
        have HG3' := Lib.hid hg32'
        have HG2' := Lib.hid hg22'
        have HBw2 := Lib.hid hbw2
        have HRow2 := Lib.hid hrow2
        have HRg2 := Lib.hid hrg2
        have HGt := Lib.hid hgt
        obtain ⟨L, hL⟩ : ∃ L, L = t.length := ⟨_, rfl⟩
        rw [← hL] at hen HRow2 ⊢
        have HL := Lib.hid hL
        have HLk := Lib.hid hlk
        have HX16 := Lib.hid hx16
        have HT8 := Lib.hid ht8
        obtain ⟨N, hN⟩ : ∃ N, N = nm x := ⟨_, rfl⟩
        rw [← hN] at hen ⊢
        have HNe := Lib.hid hN
        clear hkey hlk hv hat ex hxl hyd hrow0 hbw2 hrow2 ht8 hx16 hkeep2 hg32' hg22' hg2' hrg2 hgt hL hN
        go_wp2
        have hGb : ∀ W W' : World, Below w2.heap.size w2 W → Below W.heap.size W W' → Below w2.heap.size w2 W' := fun W W' h h' => h.trans (h'.mono h.size)
        refine region_tail_by 5 _ [(27, .is (.pointer (some ⟨g3, 0, none⟩))), (28, .is (.map (some m'))), (29, .is N), (30, .is (.slice ca L cc)), (31, .sat (fun u W => Row W 0 u t ∧ ∀ k, u.ownBlock = some k → w2.heap.size ≤ k) (fun u W W' ⟨h1, h2⟩ hb => ⟨h1.below hb, h2⟩))] [0, 1, 2, 3, 6, 7, 8, 9, 10, 11, 12, 13, 14, 15, 16, 17, 18, 19, 20, 21, 32, 28, 29, 31]
          (fun W => Below w2.heap.size w2 W) (by kernel_rfl) (by kernel_rfl) (by kernel_rfl) (by kernel_rfl) (by kernel_rfl) rfl rfl rfl rfl (by kernel_rfl) (Below.refl _ _).drew ?_ ?_
        · refine ⟨?c0, ?c1, ?c2, ?c3, ?c4, trivial⟩
          case c0 => exact ask_field (guard_none rfl) _ (.tmp 3) 0 (.pointer (some ⟨g3, 0, none⟩)) (.pointer (some ⟨g3, 0, none⟩)) rfl rfl (by intro k hk; cases hk; rfl) (fun W => by kernel_rfl)
          case c1 => exact ask_load (guard_none rfl) _ (.tmp 27) (.pointer (some ⟨g3, 0, none⟩)) (.map (some m')) rfl rfl (by intro k hk; cases hk; rfl) (fun W hW => load_map W _ _ (by rw [Blk.cell (HG3'.out.keep hW)]; rfl))
          case c2 => exact ask_copy (guard_none rfl) (.tmp 4) (.inl rfl) (by intro k hk; cases hk; rfl)
          case c3 => exact ask_copy (guard_none rfl) (.tmp 5) (.inl rfl) (by intro k hk; cases hk; rfl)
          case c4 => exact ask_call hGb (guard_none rfl) _ _ _ #[.slice ca L cc] (.sat (fun u W => Row W 0 u t ∧ ∀ k, u.ownBlock = some k → w2.heap.size ≤ k) (fun u W W' ⟨h1, h2⟩ hb => ⟨h1.below hb, h2⟩)) rfl (by kernel_rfl) rfl rfl (by intro k hk; cases hk; rfl) (fun W hW => (clone_any ca L cc t W (HRow2.out.below hW).bys (by have := HT8.out; omega)).mono fun e w' h => by
            obtain ⟨u, h1, h2, h3⟩ := h
            exact ⟨u, h1, ⟨row_lower0 h2, fun k hk => Nat.le_trans hW.size (h2.lt hk).1⟩, h3⟩)
        · intro a2 W3 hW3 hd2 hs2 hf2
          have t0 : a2.tmps.getD 0 undef = fp d o := hf2 0 rfl
          have t1 : a2.tmps.getD 1 undef = us 1 := hf2 1 rfl
          have t2 : a2.tmps.getD 2 undef = .pointer (some ⟨w.heap.size, 0, none⟩) := hf2 2 rfl
          have t3 : a2.tmps.getD 3 undef = .pointer (some ⟨g3, 0, none⟩) := hf2 3 rfl
          have t6 : a2.tmps.getD 6 undef = us 6 := hf2 6 rfl
          have t7 : a2.tmps.getD 7 undef = us 7 := hf2 7 rfl
          have t8 : a2.tmps.getD 8 undef = us 8 := hf2 8 rfl
          have t9 : a2.tmps.getD 9 undef = us 9 := hf2 9 rfl
          have t10 : a2.tmps.getD 10 undef = us 10 := hf2 10 rfl
          have t11 : a2.tmps.getD 11 undef = us 11 := hf2 11 rfl
          have t12 : a2.tmps.getD 12 undef = us 12 := hf2 12 rfl
          have t13 : a2.tmps.getD 13 undef = us 13 := hf2 13 rfl
          have t14 : a2.tmps.getD 14 undef = us 14 := hf2 14 rfl
          have t15 : a2.tmps.getD 15 undef = us 15 := hf2 15 rfl
          have t16 : a2.tmps.getD 16 undef = .agg #[.map (some m'), .int .i64 T] := hf2 16 rfl
          have t17 : a2.tmps.getD 17 undef = fp d o := hf2 17 rfl
          have t18 : a2.tmps.getD 18 undef = fp d o := hf2 18 rfl
          have t19 : a2.tmps.getD 19 undef = fp d o := hf2 19 rfl
          have t20 : a2.tmps.getD 20 undef = .map (some m) := hf2 20 rfl
          have t21 : a2.tmps.getD 21 undef = .pointer (some ⟨r, 0, none⟩) := hf2 21 rfl
          have t32 : a2.tmps.getD 32 undef = us 32 := hf2 32 rfl
          have t28 : a2.tmps.getD 28 undef = .map (some m') := hf2 28 rfl
          have t29 : a2.tmps.getD 29 undef = N := hf2 29 rfl
          obtain ⟨t31, hnew31⟩ : Row W3 0 (a2.tmps.getD 31 undef) t ∧ ∀ k, (a2.tmps.getD 31 undef).ownBlock = some k → w2.heap.size ≤ k := hf2 31 rfl
          obtain ⟨vs, hvs, ha2⟩ := act_open 33 a2 hs2 hd2
          rw [← hvs] at t0 t1 t2 t3 t6 t7 t8 t9 t10 t11 t12 t13 t14 t15 t16 t17 t18 t19 t20 t21 t32 t28 t29 t31 hnew31
          have el2 : ((List.range 33).map vs).toArray = #[vs 0, vs 1, vs 2, vs 3, vs 4, vs 5, vs 6, vs 7, vs 8, vs 9, vs 10, vs 11, vs 12, vs 13, vs 14, vs 15, vs 16, vs 17, vs 18, vs 19, vs 20, vs 21, vs 22, vs 23, vs 24, vs 25, vs 26, vs 27, vs 28, vs 29, vs 30, vs 31, vs 32] := rfl
          rw [el2] at ha2
          subst ha2
          rw [t0, t1, t2, t3, t6, t7, t8, t9, t10, t11, t12, t13, t14, t15, t16, t17, t18, t19, t20, t21, t32, t28, t29]
          obtain ⟨q, hq⟩ : ∃ q, q = vs 31 := ⟨_, rfl⟩
          rw [← hq] at t31 hnew31 ⊢
          obtain ⟨w4, hr4, hk4, ho4⟩ := store (n := x) ((HK2.out.below hW3).but _) (by have := HX16.out; omega) (by have := HCp.out.few; omega) t31 (fun p hp hne k hk hk2 => by
            have h1 := hnew31 k hk
            have h2 := ((HK2.out.row p hp).lt hk2).2
            omega)
          rw [← HNe.out] at hr4
          have hm2lt := HK2.out.lt
          have hW4 : Below w2.heap.size w2 W3 := hW3
          have HEnd : Hid (CopyAt w m m' r w.heap.size g3 F T (fun z => left z && !z.sameKey (.string x)) cnt2 (putA x (q, t) F') w4) := {
            rng := (HRg2.out.kept (grown_below hW3) (by simp) (by simp)).kept (grown_only ho4) (by simpa using hmm') (by simpa using (Ne.symm hm'r))
            keep := hk4
            get := fun n => by
              rw [pr_put]
              by_cases hn : n = x
              · subst hn
                rw [getA_put_same HCp.out.keep.riseP]
                have e : (left (.string n) && !(Lit.string n).sameKey (.string n)) = false := by simp [Lit.sameKey]
                rw [e, pr_some HGt.out]
                rfl
              · rw [getA_put_other HCp.out.keep.riseP hn, HCp.out.get]
                have e : (Lit.string n).sameKey (.string x) = false := by simpa [Lit.sameKey] using hn
                rw [e]
                simp
            new := fun k hk => by
              rcases foot_put hk with h | h
              · exact Nat.le_trans HBw2.out.size (hnew31 k h)
              · exact HCp.out.new k h
            few := by
              have h1 := length_put (n := x) (a := (q, t)) (l := F')
              have h2 := HCp.out.few
              omega
            g3b := (HG3'.out.keep hW3).only ho4 (by intro h; exact HK2.out.ne_blk HG3'.out h.symm)
            g2b := (HG2'.out.keep hW3).only ho4 (by intro h; exact HK2.out.ne_blk HG2'.out h.symm)
            bel := by
              have hb3 := HBw2.out.trans (hW3.mono HBw2.out.size)
              exact ⟨ho4.os.trans hb3.os, ho4.tape.trans hb3.tape, ho4.output.trans hb3.output, Nat.le_trans hb3.size ho4.size, fun k hk => (ho4.block k (Nat.lt_of_lt_of_le hk hb3.size) (by intro h; omega)).trans (hb3.block k hk)⟩ }
          obtain ⟨qa, qc, hqe⟩ := slice_of_row t31
          rw [hqe] at hr4 HEnd ⊢
          have HMeas : Hid (w4.rangeLeft m r < wr.rangeLeft m r) := by
            show w4.rangeLeft m r < wr.rangeLeft m r
            rw [HEnd.out.rng.left_eq, HCp.out.rng.left_eq]
            exact hlt2
          clear t31 hnew31 hq hqe hk4 ho4 hW4 hm2lt hvs t0 t1 t2 t3 t6 t7 t8 t9 t10 t11 t12 t13 t14 t15 t16 t17 t18 t19 t20 t21 t32 t28 t29 el2 hf2 hs2 hd2 hW3 hGb hen hs2'
          go_wp2
          go_roundw
          case rel => exact ⟨_, _, _, _, _, _, _, _, _, _, _, _, ⟨_, _, _, HEnd.out⟩, rfl⟩
          case measure => exact HMeas.out
end Go.Proofs.Ytboongdoggggoaa
