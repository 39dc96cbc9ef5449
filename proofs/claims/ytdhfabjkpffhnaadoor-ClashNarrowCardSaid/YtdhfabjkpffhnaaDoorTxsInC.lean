/- Lists of texts that came in, of any bulk. -/
import Derived.Test.YtdhfabjkpffhnaaDoorGCT
import Derived.SizedLaws
namespace Go.Proofs.YtdhfabjkpffhnaaDoor
set_option maxRecDepth 20000
open Go.ChangeShapes Go.WideShapes Go.ChangeAt Go.RowKit Go.Deep

theorem txs_open {H : Type} {enc : TypeId × Value → H} {W : World} {a1 : Option Addr} {len1 cap1 fuel : Nat} {d1 : DataW H} {p1 : List MemPlace}
    (hf : DataW.trod enc Tryd.prog W 0 (fun _ => true) true fuel 48 (Value.slice a1 len1 cap1).cells.toList = some (d1, p1)) :
    ∃ T : List (List UInt8), T.length = len1 ∧ Txs W (.slice a1 len1 cap1) T ∧ ∀ {ts : List TypeId} {ds : List (DataW H)} {j : Nat}, (DataW.weightsEach Tryd.prog ts ds).all (· ≤ reachBytes) = true → ts[j]? = some 48 → ds[j]? = some d1 → len1 ≤ 5864062014976 := by
  rcases open_int_rows Tryd.underlying48 Tryd.underlying22 Tryd.underlying5 (by kernel_rfl) (by kernel_rfl) hf with ⟨hcs, _⟩ | ⟨x, l, c, A, L, C, Z, hcs, _, hl, hm, hx, hrow⟩
  · simp [Value.cells] at hcs
    obtain ⟨rfl, rfl, rfl⟩ := hcs
    exact ⟨[], rfl, ⟨none, 0, rfl, Nat.le_refl _, fun i n h => by simp at h⟩, fun _ _ _ => by omega⟩
  · simp [Value.cells] at hcs
    obtain ⟨rfl, rfl, rfl⟩ := hcs
    have hd : d1 = _ := (Prod.mk.inj hx).1
    have each : ∀ r, r < len1 → ∃ t : List UInt8, t.length = L r ∧ Bys W (.slice (A r) (L r) (C r)) t := by
      intro r hr
      obtain ⟨hc, hlc, hcm, hzl, hwz, hnone, hcells⟩ := hrow r (by omega)
      have hR : IsRow .u8 W (A r) (L r) (C r) (Z r) := by
        cases hA : A r with
        | none =>
          have h0 := hnone hA
          refine .inl ⟨rfl, by omega, h0, List.eq_nil_of_length_eq_zero (by omega)⟩
        | some ad => exact .inr ⟨ad, rfl, hlc, hcm, hzl, fun i hi => (hcells ad hA).2 i (by omega), hwz⟩
      exact hR.bys
    obtain ⟨t, ht⟩ := choose_lt each
    refine ⟨(List.range len1).map t, by simp, ⟨some x, cap1, by simp, by simp; omega, fun i u hu => ?_⟩, fun h1 h2 h3 => ?_⟩
    · rw [List.getElem?_map] at hu
      obtain ⟨j, hj, rfl⟩ := Option.map_eq_some_iff.1 hu
      obtain ⟨hj1, hj2⟩ := List.getElem?_eq_some_iff.1 hj
      simp at hj1 hj2
      subst hj2
      obtain ⟨e1, e2⟩ := ht i hj1
      obtain ⟨hc, _⟩ := hrow i (by omega)
      exact ⟨x, A i, C i, rfl, by rw [e1]; exact hc, by rw [e1]; exact e2⟩
    · rw [hd] at h3
      have hs2 := sized_slice h1 h2 h3 Tryd.underlying48
      have hb : Tryd.prog.bytesOf 22 = 24 := by kernel_rfl
      rw [hb] at hs2
      simp only [List.length_map, List.length_range, reachBytes] at hs2
      omega
end Go.Proofs.YtdhfabjkpffhnaaDoor

