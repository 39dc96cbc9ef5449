/- ShaNarrows: the walk. -/
import Derived.Test.YtbnnjnieemjdhaaDoorShaRooted
import Derived.ChangeArms
namespace Go.Proofs.YtbnnjnieemjdhaaDoor
open Go.ChangeShapes Go.WideShapes Go.ChangeAt Go.RowKit ShaMath Reg

/-- An array of bytes that came in. -/
theorem open_hash {H : Type} {enc : TypeId × Value → H} {w : World} {base : Nat} {sp : Nat → Bool} {held : Bool} {fuel : Nat} {cs : List Value} {d : DataW H} {p : List MemPlace}
    (h : DataW.trod enc Tryd.prog w base sp held fuel 25 cs = some (d, p)) : ∃ l : List UInt8, cs = l.map bv ∧ l.length = 32 := by
  have hct : Tryd.prog.cellsOf 25 = 32 := by kernel_rfl
  have hce : Tryd.prog.cellsOf 5 = 1 := by kernel_rfl
  cases fuel with
  | zero => simp [DataW.trod] at h
  | succ fuel =>
    simp only [DataW.trod, Tryd.underlying25, hce, hct, Nat.mul_one] at h
    split at h
    · rename_i hl
      obtain ⟨xs, hm, hx⟩ := Option.map_eq_some_iff.1 h
      have hcell : ∀ i, i < 32 → ∃ c : UInt8, cs[i]? = some (bv c) := fun i hi => by
        obtain ⟨b, hb, hf⟩ := Lib.mapM_at hm i i (by simp [hi])
        obtain ⟨z, hc, -, hwf⟩ := DataW.trod_int Tryd.underlying5 hf
        have h1 : cs[i]? = some (.int .u8 z) := by
          have := congrArg (·[0]?) hc
          simpa [List.getElem?_take, List.getElem?_drop] using this
        have hz := bounds_u8 hwf
        refine ⟨UInt8.ofNat z.toNat, ?_⟩
        rw [h1, bv_of]
        congr 2
        omega
      obtain ⟨f, hf⟩ : ∃ f : Nat → UInt8, ∀ i, i < 32 → cs[i]? = some (bv (f i)) :=
        ⟨fun i => if hi : i < 32 then (hcell i hi).choose else 0, fun i hi => by simp only [hi, dif_pos]; exact (hcell i hi).choose_spec⟩
      have hcl : cs.length = 32 := by
        have h31 := (List.getElem?_eq_some_iff.1 (hf 31 (by omega))).1
        try simp at hl
        omega
      refine ⟨(List.range 32).map f, ?_, by simp⟩
      apply List.ext_getElem?
      intro i
      by_cases hi : i < 32
      · rw [hf i hi]
        simp [hi]
      · rw [List.getElem?_eq_none (by omega), List.getElem?_eq_none (by simp; omega)]
    · cases h

theorem eql_hash (s t : Operand) (X : List UInt8) (hX : X.length = 32) (W : World) : (do eqGuard .eql 25 s t (.agg (bs X)) (.agg (bs X)); binOp .eql 25 (.agg (bs X)) (.agg (bs X)) : Sem Value).run Tryd.prog W = .ok (.bool true) W := by
  rw [Sem.run_bind, run_eqGuard_agg W .eql 25 s t _ _ (by kernel_rfl), Result.andThen_ok, run_eql_struct, eq_same W X hX]
  rfl

section
variable {P : Program} {ops : Array Oper} {tab : List (List Nat)} {fin : List Tmp} {G : World → Prop} {f : Tmp → Fact} {i : Nat} {o : Oper}
theorem ask_min (hg : guardOk ops f o) (s t : Operand) (ts : Array TypeId) (x y : Int) (ho : o.op = .call { callee := .builtin .min, args := #[s, t], argTypes := ts }) (hs : opFact f s = .is (.int .i64 x)) (ht : opFact f t = .is (.int .i64 y))
    (hd : ∀ k, o.dst = some k → f k = .is (.int .i64 (if y < x then y else x))) : Asked P ops tab fin G f i o := by
  refine ask_val hg _ hd fun w W hW hk => ?_
  have e1 := evalBy_opVal hk s (by rw [ho]; simp [Op.operands, Call.operands]) hs
  have e2 := evalBy_opVal hk t (by rw [ho]; simp [Op.operands, Call.operands]) ht
  have hr := run_min_int2 (P := P) W ts o.type .i64 .i64 x y
  simp [execOp, ho, resolve, invoke, builtin, e1, e2, hr, Result.andThen]
end

set_option maxRecDepth 100000 in
theorem narrows_walk (h : List UInt8) (a b : Int) (w : World) (hl : h.length = 32) (ha : -9223372036854775808 ≤ a ∧ a ≤ 9223372036854775807) (hb : -9223372036854775808 ≤ b ∧ b ≤ 9223372036854775807) (ht : Tabs w) :
    Calls Tryd.prog 6 #[.agg (bs h), .int .i64 a, .int .i64 b] w fun e w' => e = .returned (.bool true) ∧ Below w.heap.size w w' := by
  have HT := Lib.hid ht
  clear ht
  obtain ⟨m, hm⟩ : ∃ m, m = (if b < a then b else a) := ⟨_, rfl⟩
  have hmm : m = min a b := by rw [hm]; omega
  have hmb : -9223372036854775808 ≤ m ∧ m ≤ 9223372036854775807 := by rw [hm]; split <;> omega
  obtain ⟨X, hX⟩ : ∃ X, X = narrowL h a := ⟨_, rfl⟩
  obtain ⟨Y, hY⟩ : ∃ Y, Y = narrowL X b := ⟨_, rfl⟩
  have hXl : X.length = 32 := by rw [hX, narrowL_length]
  have hYl : Y.length = 32 := by rw [hY, narrowL_length]
  have hY2 : narrowL h m = Y := by rw [hY, hX, narrow_twice, hmm]
  have h256 : narrowL h 256 = h := narrow_full h 256 hl (by omega)
  have h0 : narrowL h 0 = List.replicate 32 0 := narrow_none h 0 (by omega)
  obtain ⟨cs, hcs⟩ : ∃ cs, cs = bs h := ⟨_, rfl⟩
  obtain ⟨xs, hxs⟩ : ∃ xs, xs = bs X := ⟨_, rfl⟩
  have hcl : cs.size = 32 := by rw [hcs, bs_size, hl]
  have hxl : xs.size = 32 := by rw [hxs, bs_size, hXl]
  have hone : xs.all (·.oneCell') = true := by rw [hxs]; exact bs_one _
  have hszc : (Tryd.prog.info? 25).map (·.size) = some cs.size := by rw [hcl]; kernel_rfl
  have hszx : (Tryd.prog.info? 25).map (·.size) = some xs.size := by rw [hxl]; kernel_rfl
  have hna : ∀ W, Calls Tryd.prog 14 #[.agg cs, .int .i64 a] W fun e w' => e = .returned (.agg xs) ∧ Below W.heap.size W w' := fun W => by rw [hcs, hxs, hX]; exact narrow_any h a W hl ha
  rw [← hcs]
  have HNa := Lib.hid hna
  have HC := Lib.hid hcs
  have HX := Lib.hid hxs
  have HCl := Lib.hid hcl
  have HXl := Lib.hid hxl
  have HSc := Lib.hid hszc
  have HSx := Lib.hid hszx
  have HOne := Lib.hid hone
  have HXa := Lib.hid hX
  have HYa := Lib.hid hY
  have HYm := Lib.hid hY2
  have H256 := Lib.hid h256
  have H0 := Lib.hid h0
  have HM := Lib.hid hm
  have HL := Lib.hid (And.intro hl (And.intro hXl hYl))
  clear hna hcs hxs hcl hxl hone hszc hszx hX hY hY2 h256 h0 hm hmm hl hXl hYl
  go_enter Tryd.func6, Tryd.ntmps6
  go_wp2_with fail
  refine (awake_any _ (HT.out.below (Nat.le_refl _) ((Below.refl _ _).alloc (Nat.le_refl _) _))).mono ?_
  rintro e w1 ⟨rfl, hb1⟩
  have hb2 : Below w.heap.size w w1 := ((Below.refl w.heap.size w).alloc (Nat.le_refl _) (.cells cs 25)).trans (hb1.mono (by simp))
  have hb3 : Blk w1 w.heap.size 25 cs := (Blk.newAt _ _ _ _ _ rfl rfl).keep hb1
  have HB2 := Lib.hid hb2
  have HB3 := Lib.hid hb3
  have hs1 := hb3.lt
  clear hb1 hb2 hb3
  go_wp2_with (refine wpList_load_row rfl 25 (.tmp 3) rfl w.heap.size rfl 25 cs (0, 0) _ HB3.out Tryd.underlying25 rfl HSc.out ?_)
  refine (HNa.out _).mono ?_
  rintro e w2 ⟨rfl, hb4⟩
  have HB4 := Lib.hid hb4
  have hs2 := hb4.size
  clear hb4
  go_upto_region 4 with (refine wpList_store_row rfl 25 (.tmp 7) (.tmp 12) rfl w2.heap.size xs rfl rfl 25 _ (heap_alloc_new w2 _) HSx.out (by rw [HXl.out]; rfl) HOne.out ?_)
  refine world_cut (fun W => Blk W w.heap.size 25 cs ∧ Blk W w2.heap.size 25 xs ∧ Below w.heap.size w W) ?_ ?_
  · exact ⟨((HB3.out.keep HB4.out).alloc _).rowOther _ (by omega), Blk.row (heap_alloc_new w2 _) xs, below_setRow ((HB2.out.trans (HB4.out.mono (by omega))).alloc (by omega) _) _ _ (by omega)⟩
  obtain ⟨g7, hg7⟩ : ∃ g, g = w2.heap.size := ⟨_, rfl⟩
  rw [← hg7]
  clear hg7 HB2 HB3 HB4 hs1 hs2 HNa HOne
  rintro W ⟨h1, h2, h3⟩
  have hG : ∀ W1 W' : World, Below W.heap.size W W1 → Below W1.heap.size W1 W' → Below W.heap.size W W' := fun W1 W' h h' => h.trans (h'.mono h.size)
  have hnar : ∀ (l : List UInt8) (c : Int) (W1 : World), l.length = 32 → (-9223372036854775808 ≤ c ∧ c ≤ 9223372036854775807) → Calls Tryd.prog 14 #[.agg (bs l), .int .i64 c] W1 fun e W' => ∃ v, e = .returned v ∧ (Fact.is (.agg (bs (narrowL l c)))).holds v W' ∧ Below W1.heap.size W1 W' :=
    fun l c W1 h hc => (narrow_any l c W1 h hc).mono fun e w' hh => ⟨_, hh.1, rfl, hh.2⟩
  have hl := HL.out.1
  have hXl := HL.out.2.1
  have hYl := HL.out.2.2
  rw [HC.out] at h1
  rw [HX.out] at h2
  have hload3 : ∀ W1, Below W.heap.size W W1 → (Instr.loadAt 25 (.pointer (some ⟨w.heap.size, 0, none⟩))).run Tryd.prog W1 = .ok (.agg (bs h)) W1 := fun W1 hW => (h1.keep hW).loads _ _ Tryd.underlying25 rfl (by rw [bs_size, hl]; kernel_rfl)
  have hload7 : ∀ W1, Below W.heap.size W W1 → (Instr.loadAt 25 (.pointer (some ⟨g7, 0, none⟩))).run Tryd.prog W1 = .ok (.agg (bs X)) W1 := fun W1 hW => (h2.keep hW).loads _ _ Tryd.underlying25 rfl (by rw [bs_size, hXl]; kernel_rfl)
  have hz32 : (List.replicate 32 (0 : UInt8)).length = 32 := by simp
  refine frame_cut 41 rfl rfl ?_
  intro us0 hus
  have f0 : us0 0 = .agg cs := hus 0
  have f1 : us0 1 = .int .i64 a := hus 1
  have f2 : us0 2 = .int .i64 b := hus 2
  have f3 : us0 3 = .pointer (some ⟨w.heap.size, 0, none⟩) := hus 3
  have f7 : us0 7 = .pointer (some ⟨g7, 0, none⟩) := hus 7
  clear hus
  have el : ((List.range 41).map us0).toArray = #[us0 0, us0 1, us0 2, us0 3, us0 4, us0 5, us0 6, us0 7, us0 8, us0 9, us0 10, us0 11, us0 12, us0 13, us0 14, us0 15, us0 16, us0 17, us0 18, us0 19, us0 20, us0 21, us0 22, us0 23, us0 24, us0 25, us0 26, us0 27, us0 28, us0 29, us0 30, us0 31, us0 32, us0 33, us0 34, us0 35, us0 36, us0 37, us0 38, us0 39, us0 40] := rfl
  rw [el, f0, f1, f2, f3, f7]
  clear el f0 f1 f2 f3 f7
  refine region_by [(13, .is (.agg (bs X))), (14, .is (.agg (bs h))), (15, .is (.int .i64 a)), (16, .is (.agg (bs X))), (17, .is (.bool true)), (18, .is (.bool true)), (19, .is (.agg (bs X))), (20, .is (.int .i64 b)), (21, .is (.agg (bs Y))), (22, .is (.agg (bs h))), (23, .is (.int .i64 a)), (24, .is (.int .i64 b)), (25, .is (.int .i64 m)), (26, .is (.agg (bs Y))), (27, .is (.bool true)), (28, .is (.bool true)), (29, .is (.bool true)), (30, .is (.agg (bs h))), (31, .is (.agg (bs h))), (32, .is (.agg (bs h))), (33, .is (.bool true)), (34, .is (.bool true)), (35, .is (.bool true)), (36, .is (.agg (bs h))), (37, .is (.agg (bs (List.replicate 32 0)))), (38, .is (.agg (bs (List.replicate 32 0)))), (39, .is (.bool true)), (40, .is (.bool true)), (6, .is (.bool true))] [6] (fun W1 => Below W.heap.size W W1) (by kernel_rfl) (by kernel_rfl) (by kernel_rfl) (by kernel_rfl) (by kernel_rfl) (Below.refl _ _).drew ?_ ?_
  · refine ⟨?a0, ?a1, ?a2, ?a3, ?a4, ?a5, ?a6, ?a7, ?a8, ?a9, ?a10, ?a11, ?a12, ?a13, ?a14, ?a15, ?a16, ?a17, ?a18, ?a19, ?a20, ?a21, ?a22, ?a23, ?a24, ?a25, ?a26, ?a27, ?a28, trivial⟩
    case a0 => exact ask_load (guard_none rfl) _ (.tmp 7) _ _ rfl rfl (by intro k hk; cases hk; rfl) hload7
    case a1 => exact ask_load (guard_none rfl) _ (.tmp 3) _ _ rfl rfl (by intro k hk; cases hk; rfl) hload3
    case a2 => exact ask_copy (guard_none rfl) (.tmp 1) (.inl rfl) (by intro k hk; cases hk; rfl)
    case a3 => exact ask_call hG (guard_none rfl) _ _ _ #[.agg (bs h), .int .i64 a] (.is (.agg (bs X))) rfl (by kernel_rfl) rfl rfl (by intro k hk; cases hk; rfl) (fun W1 hW => (refnarrow_any h a W1 hl ha).mono fun e w' hh => ⟨_, hh.1, by show _ = _; rw [HXa.out], hh.2⟩)
    case a4 => exact ask_cmp (guard_none rfl) _ _ _ _ _ _ _ _ rfl rfl rfl (by intro k hk; cases hk; rfl) (eql_hash _ _ X hXl)
    case a5 => exact ask_copy (guard_none rfl) (.tmp 17) (.inl rfl) (by intro k hk; cases hk; rfl)
    case a6 => exact ask_load (guard_some rfl rfl rfl) _ (.tmp 7) _ _ rfl rfl (by intro k hk; cases hk; rfl) hload7
    case a7 => exact ask_copy (guard_some rfl rfl rfl) (.tmp 2) (.inl rfl) (by intro k hk; cases hk; rfl)
    case a8 => exact ask_call hG (guard_some rfl rfl rfl) _ _ _ #[.agg (bs X), .int .i64 b] (.is (.agg (bs Y))) rfl (by kernel_rfl) rfl rfl (by intro k hk; cases hk; rfl) (fun W1 hW => by rw [HYa.out]; exact hnar X b W1 hXl hb)
    case a9 => exact ask_load (guard_some rfl rfl rfl) _ (.tmp 3) _ _ rfl rfl (by intro k hk; cases hk; rfl) hload3
    case a10 => exact ask_copy (guard_some rfl rfl rfl) (.tmp 1) (.inl rfl) (by intro k hk; cases hk; rfl)
    case a11 => exact ask_copy (guard_some rfl rfl rfl) (.tmp 2) (.inl rfl) (by intro k hk; cases hk; rfl)
    case a12 => exact ask_min (guard_some rfl rfl rfl) (.tmp 23) (.tmp 24) _ a b rfl rfl rfl (by intro k hk; cases hk; show Fact.is _ = _; rw [HM.out])
    case a13 => exact ask_call hG (guard_some rfl rfl rfl) _ _ _ #[.agg (bs h), .int .i64 m] (.is (.agg (bs Y))) rfl (by kernel_rfl) rfl rfl (by intro k hk; cases hk; rfl) (fun W1 hW => by rw [← HYm.out]; exact hnar h m W1 hl hmb)
    case a14 => exact ask_cmp (guard_some rfl rfl rfl) _ _ _ _ _ _ _ _ rfl rfl rfl (by intro k hk; cases hk; rfl) (eql_hash _ _ Y hYl)
    case a15 => exact ask_pick (guard_none rfl) _ _ _ true rfl rfl (by intro k hk; cases hk; rfl)
    case a16 => exact ask_copy (guard_none rfl) (.tmp 28) (.inl rfl) (by intro k hk; cases hk; rfl)
    case a17 => exact ask_load (guard_some rfl rfl rfl) _ (.tmp 3) _ _ rfl rfl (by intro k hk; cases hk; rfl) hload3
    case a18 => exact ask_call hG (guard_some rfl rfl rfl) _ _ _ #[.agg (bs h), .int .i64 256] (.is (.agg (bs h))) rfl (by kernel_rfl) rfl rfl (by intro k hk; cases hk; rfl) (fun W1 hW => by have := hnar h 256 W1 hl ⟨by omega, by omega⟩; rwa [H256.out] at this)
    case a19 => exact ask_load (guard_some rfl rfl rfl) _ (.tmp 3) _ _ rfl rfl (by intro k hk; cases hk; rfl) hload3
    case a20 => exact ask_cmp (guard_some rfl rfl rfl) _ _ _ _ _ _ _ _ rfl rfl rfl (by intro k hk; cases hk; rfl) (eql_hash _ _ h hl)
    case a21 => exact ask_pick (guard_none rfl) _ _ _ true rfl rfl (by intro k hk; cases hk; rfl)
    case a22 => exact ask_copy (guard_none rfl) (.tmp 34) (.inl rfl) (by intro k hk; cases hk; rfl)
    case a23 => exact ask_load (guard_some rfl rfl rfl) _ (.tmp 3) _ _ rfl rfl (by intro k hk; cases hk; rfl) hload3
    case a24 => exact ask_call hG (guard_some rfl rfl rfl) _ _ _ #[.agg (bs h), .int .i64 0] (.is (.agg (bs (List.replicate 32 0)))) rfl (by kernel_rfl) rfl rfl (by intro k hk; cases hk; rfl) (fun W1 hW => by have := hnar h 0 W1 hl ⟨by omega, by omega⟩; rwa [H0.out] at this)
    case a25 => exact ask_exec (guard_some rfl rfl rfl) (.agg (bs (List.replicate 32 0))) rfl rfl (by intro k hk; cases hk; rfl) (fun W1 hW => by kernel_rfl)
    case a26 => exact ask_cmp (guard_some rfl rfl rfl) _ _ _ _ _ _ _ _ rfl rfl rfl (by intro k hk; cases hk; rfl) (eql_hash _ _ _ hz32)
    case a27 => exact ask_pick (guard_none rfl) _ _ _ true rfl rfl (by intro k hk; cases hk; rfl)
    case a28 => exact ask_copy (guard_none rfl) (.tmp 40) (.inr rfl) (by intro k hk; cases hk; rfl)
  · intro a' W1 hW hd hs hf
    have h6 : a'.tmps.getD 6 undef = .bool true := hf 6 rfl
    have hd0 : a'.defers = [] := hd
    go_wp2
    refine bodyPost_ret (v := .bool true) ?_ hd0 ⟨rfl, h3.trans (hW.mono h3.size)⟩
    rw [← h6]
    exact results_tmp rfl _ _ _

theorem narrows_all (w : World) (ht : Tabs w) (h : List UInt8) (hl : h.length = 32) (a : Int) (ha : (Lit.int .i64 a).wf = true) (b : Int) (hb : (Lit.int .i64 b).wf = true) :
    Calls Tryd.prog 6 #[.agg (bs h), .int .i64 a, .int .i64 b] w fun e w' => e = .returned (.bool true) ∧ Below w.heap.size w w' := by
  have h1 := bounds_i64 ha
  have h2 := bounds_i64 hb
  exact narrows_walk h a b w hl ⟨by omega, by omega⟩ ⟨by omega, by omega⟩ ht
end Go.Proofs.YtbnnjnieemjdhaaDoor
