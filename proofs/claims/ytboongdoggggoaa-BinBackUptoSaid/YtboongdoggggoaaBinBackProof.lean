/- Proved: where what it is given is of bulk at most 1,048,576 the law BinBack answers true, and its arguments read as they did: numbers and texts laid one behind the other are read so. The bound pays for the joined bytes: several texts may each be as long as a text may be. Conditions: that bound. -/
import Derived.Test.YtboongdoggggoaaBinBackWalk
import Derived.Test.YtboongdoggggoaaFrame
import Derived.JoinedCond
import Derived.Deep.Matrix
namespace Go.Proofs.Ytboongdoggggoaa
set_option maxRecDepth 20000
open Go.ChangeShapes Go.WideShapes Go.ChangeAt Go.RowKit Go.Deep
open Go.ChangeMaps (open_string shut_string)
set_option linter.unusedVariables false

/-- The numbers, as the walk wants them. -/
theorem nums_of {W : World} {a : Option Addr} {len cap : Nat} {zs : List Int} (h : IsRow .u64 W a len cap zs) : ∃ N : List Nat, N.length = len ∧ NumsAt W a N := by
  rcases h with ⟨rfl, rfl, rfl, rfl⟩ | ⟨ad, rfl, hl, hm, hz, hc, hw⟩
  · exact ⟨[], rfl, fun i n h => by simp at h⟩
  · refine ⟨(zs.take len).map Int.toNat, by simp; omega, fun i n h => ?_⟩
    obtain ⟨z, hz1, rfl⟩ : ∃ z, (zs.take len)[i]? = some z ∧ z.toNat = n := by
      rw [List.getElem?_map] at h
      obtain ⟨z, h1, h2⟩ := Option.map_eq_some_iff.1 h
      exact ⟨z, h1, h2⟩
    have hi : i < len := by
      have := (List.getElem?_eq_some_iff.1 hz1).1
      simp at this
      omega
    rw [List.getElem?_take_of_lt hi] at hz1
    have hb := bounds_u64 (hw z (List.mem_of_getElem? hz1))
    refine ⟨by omega, ad, rfl, ?_⟩
    rw [hc i (by omega), List.getD_eq_getElem?_getD, hz1, Option.getD_some, Int.toNat_of_nonneg hb.1]

set_option maxRecDepth 100000 in
theorem binBack_lifted (os : Os) (started : os.Started) (H : Type) (enc : TypeId × Value → H) (F : Stop.Interp) :
    ReturnsInHanded {} Try.checked os 4 .any ((Rows.OpenSpec.upto Rows.binBackSpec).pre6 enc Try.prog Try.f4 Rows.binBackUptoRow.domain false) (((Rows.OpenSpec.upto Rows.binBackSpec).at F).post enc Try.prog Try.f4 false true false false) := by
  refine returnsInHanded_of_cond (C := Try.checked) (s := Rows.OpenSpec.upto Rows.binBackSpec) (k := Rows.uptoSmall) rfl own started (by kernel_rfl) Try.func4
    (OpenSpec.witness (enc := enc) (C := Try.checked) (s := Rows.OpenSpec.upto Rows.binBackSpec) (k := Rows.uptoSmall) rfl false ⟨#[], #[.slice none 0 0, .slice none 0 0], []⟩ 8 (by kernel_rfl) (by kernel_rfl) (by kernel_rfl)
      (x := ([.nil, .nil], [], [])) (by kernel_rfl) rfl (by kernel_rfl)) ?_
  intro W base args ds gs before hval0 hW hcnd hk0 _
  have hval : ∀ (j : Nat) t v, Try.f4.params[j]? = some t → args[j]? = some v → Value.okWide Try.prog W .any base t v := hval0
  have hk : Rows.uptoSmall H (ds ++ gs) = true := hk0
  have hW' := hW
  obtain ⟨p, q, hA0, hV, rfl, hfz, hnd⟩ := hW
  have hA : DataW.TrodAll enc Try.prog W 0 (fun _ => true) true Try.f4.params.toList args.toList ds p := hA0
  rw [Try.params4] at hA hval
  obtain ⟨v0, vs0, d0, ds0, p0, q0, hargs, rfl, rfl, h0, r0⟩ := trodAll_cons hA
  obtain ⟨v1, vs1, d1, ds1, p1, q1, rfl, rfl, rfl, h1, r1⟩ := trodAll_cons r0
  obtain ⟨rfl, rfl, rfl⟩ := trodAll_nil r1
  obtain rfl : args = #[v0, v1] := by cases args; simp_all
  obtain ⟨rfl, rfl⟩ := trodVars_none hV
  have hb : Rows.uptoBulk d0 + Rows.uptoBulk d1 ≤ 1048576 := by
    have h : Rows.uptoBulkAll ([d0, d1] ++ []) ≤ 1048576 := of_decide_eq_true hk
    simp only [List.append_nil, Rows.uptoBulkAll] at h
    omega
  obtain ⟨a0, len0, cap0, rfl⟩ := okWide_slice Try.underlying43 (hval 0 43 v0 rfl rfl)
  obtain ⟨a1, len1, cap1, rfl⟩ := okWide_slice Try.underlying44 (hval 1 44 v1 rfl rfl)
  have k0 := h0
  have k1 := h1
  have lt0 : ∀ x ∈ p0, x.block < W.heap.size := by obtain ⟨m, hm⟩ := k0; exact DataW.trod_lt m _ _ _ hm
  have lt1 : ∀ x ∈ p1, x.block < W.heap.size := by obtain ⟨m, hm⟩ := k1; exact DataW.trod_lt m _ _ _ hm
  obtain ⟨N, hNl, hN, hN0⟩ : ∃ N : List Nat, N.length = len0 ∧ NumsAt W a0 N ∧ len0 ≤ 1048576 := by
    obtain ⟨fuel, hf⟩ := h0
    rcases open_ints Try.underlying43 Try.underlying33 (by kernel_rfl) hf with ⟨hcs, _⟩ | ⟨x, l, c, zs, hcs, _, hl, hm, hz, hx, hcell, hwz⟩
    · simp [Value.cells] at hcs
      obtain ⟨rfl, rfl, rfl⟩ := hcs
      exact ⟨[], rfl, fun i n h => by simp at h, by omega⟩
    · simp [Value.cells] at hcs
      obtain ⟨rfl, rfl, rfl⟩ := hcs
      have hd : d0 = _ := (Prod.mk.inj hx).1
      simp only [if_true] at hz
      obtain ⟨N, h1, h2⟩ := nums_of (.inr ⟨_, rfl, hl, hm, hz, hcell, hwz⟩)
      refine ⟨N, h1, h2, ?_⟩
      have e := Bulk.elems (H := H) (lits .u64 (zs.take len0)) (lits .u64 (zs.drop len0))
      rw [← hd] at e
      have e2 := Bulk.places (H := H) (lits .u64 (zs.take len0))
      simp only [lits, List.length_map, List.length_take] at e2
      simp only [lits] at e
      omega
  obtain ⟨T, hTl, hT, hT0⟩ : ∃ T : List (List UInt8), T.length = len1 ∧ TextsAt W a1 T ∧ len1 ≤ 1048576 := by
    obtain ⟨fuel, hf⟩ := h1
    rcases open_int_rows Try.underlying44 Try.underlying22 Try.underlying5 (by kernel_rfl) (by kernel_rfl) hf with ⟨hcs, _⟩ | ⟨x, l, c, A, L, C, Z, hcs, _, hl, hm, hx, hrow⟩
    · simp [Value.cells] at hcs
      obtain ⟨rfl, rfl, rfl⟩ := hcs
      exact ⟨[], rfl, fun i n h => by simp at h, by omega⟩
    · simp [Value.cells] at hcs
      obtain ⟨rfl, rfl, rfl⟩ := hcs
      have hd : d1 = _ := (Prod.mk.inj hx).1
      have e := Bulk.elems (H := H) ((List.range len1).map fun r => intRow .u8 (A r) (L r) (Z r)) ((List.range (cap1 - len1)).map fun j => intRow .u8 (A (len1 + j)) (L (len1 + j)) (Z (len1 + j)))
      rw [← hd] at e
      have e2 := Bulk.places (H := H) ((List.range len1).map fun r => intRow .u8 (A r) (L r) (Z r))
      simp only [List.length_map, List.length_range] at e2
      have each : ∀ r, r < len1 → ∃ t : List UInt8, t.length = L r ∧ t.length ≤ 1048576 ∧ Bys W (.slice (A r) (L r) (C r)) t := by
        intro r hr
        obtain ⟨hc, hlc, hcm, hzl, hwz, hnone, hcells⟩ := hrow r (by omega)
        have hR : IsRow .u8 W (A r) (L r) (C r) (Z r) := by
          cases hA : A r with
          | none =>
            have h0 := hnone hA
            refine .inl ⟨rfl, by omega, h0, List.eq_nil_of_length_eq_zero (by omega)⟩
          | some ad => exact .inr ⟨ad, rfl, hlc, hcm, hzl, fun i hi => (hcells ad hA).2 i (by omega), hwz⟩
        obtain ⟨t, ht, hb2⟩ := hR.bys
        refine ⟨t, ht, ?_, hb2⟩
        rw [ht]
        cases hA : A r with
        | none => have := hnone hA; omega
        | some ad =>
          have e3 := Bulk.part (H := H) (d := intRow .u8 (A r) (L r) (Z r)) (l := (List.range len1).map fun r => intRow .u8 (A r) (L r) (Z r)) (List.mem_map.2 ⟨r, List.mem_range.2 hr, rfl⟩)
          have e7 : intRow (H := H) .u8 (A r) (L r) (Z r) = .slice (lits .u8 ((Z r).take (L r))) (lits .u8 ((Z r).drop (L r))) := by rw [hA]; rfl
          rw [e7] at e3
          have e4 := Bulk.elems (H := H) (lits .u8 ((Z r).take (L r))) (lits .u8 ((Z r).drop (L r)))
          have e5 := Bulk.places (H := H) (lits .u8 ((Z r).take (L r)))
          simp only [lits, List.length_map, List.length_take] at e5
          simp only [lits] at e4 e3
          omega
      obtain ⟨t, ht⟩ := choose_lt each
      refine ⟨(List.range len1).map t, by simp, fun i u hu => ?_, by omega⟩
      rw [List.getElem?_map] at hu
      obtain ⟨j, hj, rfl⟩ := Option.map_eq_some_iff.1 hu
      obtain ⟨hj1, hj2⟩ := List.getElem?_eq_some_iff.1 hj
      simp at hj1 hj2
      subst hj2
      obtain ⟨e6, e7, e8⟩ := ht i hj1
      refine ⟨e7, _, A i, C i, rfl, ?_, ?_⟩
      · rw [e6]; exact (hrow i (by omega)).1
      · rw [e6]; exact e8
  clear hA0 hval0
  refine (back_walk a0 a1 len0 cap0 len1 cap1 N T W hN hT hNl.symm hTl.symm hN0 hT0).mono fun e W' ⟨he, bel⟩ => ?_
  subst he
  exact ⟨_, rfl, _, _, _, [], _, [], hW', trodAll_mk1 (shut_bool Try.underlying4 _), (trodAll_cons_mk (Below.trod laidOut (by kernel_rfl) (of_decide_eq_true (by kernel_rfl)) k0 bel lt0) (trodAll_cons_mk (Below.trod laidOut (by kernel_rfl) (of_decide_eq_true (by kernel_rfl)) k1 bel lt1) trodAll_mk0)), rfl, bel.frame _, fun h => by cases h⟩

theorem binBackUpto_proved : Rows.BinBackUptoSaid :=
  OpenClaim.holds_of_cond 4 Try.f4 rfl rfl rfl rfl rfl rfl rfl ⟨rfl, rfl, rfl, rfl, rfl⟩ rfl rfl rfl rfl rfl (by kernel_rfl) Try.func4 (by kernel_rfl)
    (of_decide_eq_true (by kernel_rfl)) (by unfold Func.isWrapper; first | (rw [if_pos (by decide +kernel)]; kernel_rfl) | (rw [if_neg (by decide +kernel)]; exact ⟨rfl, rfl⟩))
    (fun os started H enc _ F => binBack_lifted os started H enc F)
#print axioms binBackUpto_proved
end Go.Proofs.Ytboongdoggggoaa
