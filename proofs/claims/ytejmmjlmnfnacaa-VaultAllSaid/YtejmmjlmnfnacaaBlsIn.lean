/- Choices that came in. -/
import Derived.Test.YtejmmjlmnfnacaaDiskKept
import Derived.Deep.Slices
import Derived.OpenShut
import Derived.SizedLaws
namespace Go.Proofs.Ytejmmjlmnfnacaa
open Go.ChangeShapes Go.WideShapes Go.ChangeAt Go.RowKit Go.Deep Go.Maps

/-- Choices that came in, and how many. -/
theorem open_bls {H : Type} {enc : TypeId × Value → H} {W : World} {a1 : Option Addr} {len1 cap1 fuel : Nat} {d1 : DataW H} {p1 : List MemPlace}
    (hf : DataW.trod enc Try.prog W 0 (fun _ => true) true fuel 26 (Value.slice a1 len1 cap1).cells.toList = some (d1, p1)) : ∃ ks : List Bool, ks.length = len1 ∧ Bls W (.slice a1 len1 cap1) ks ∧ (a1 = none → cap1 = 0) ∧ ∀ {ts : List TypeId} {ds : List (DataW H)} {j : Nat}, (DataW.weightsEach Try.prog ts ds).all (· ≤ reachBytes) = true → ts[j]? = some 26 → ds[j]? = some d1 → len1 ≤ 140737488351232 := by
  have f5 : DataW.trod enc Try.prog W 0 (fun _ => true) true fuel 26 [Value.slice a1 len1 cap1] = some (d1, p1) := hf
  rcases open_slice1 Try.underlying26 (by kernel_rfl) f5 with ⟨hcs, _⟩ | ⟨x', l', c', m', n'', V, D', Pl', hcs, _, hl', hm', hmm', hxd, hx'⟩
  · simp at hcs
    obtain ⟨rfl, rfl, rfl⟩ := hcs
    exact ⟨[], rfl, ⟨none, 0, rfl, fun i b h => (by simp at h)⟩, fun _ => rfl, fun _ _ _ => by omega⟩
  · simp at hcs
    obtain ⟨rfl, rfl, rfl⟩ := hcs
    have hd : d1 = _ := (Prod.mk.inj hxd).1
    simp only [if_true] at hmm'
    obtain ⟨B, hB⟩ := choose_lt (α := Bool) (n := len1) (p := fun i b => V i = .bool b) (fun i hi => by
      obtain ⟨b, h1, -⟩ := DataW.trod_bool Try.underlying4 (hx' i (by omega)).2
      exact ⟨b, by simpa using h1⟩)
    refine ⟨(List.range len1).map B, by simp, ⟨some x', cap1, by simp, fun i b hi => ⟨x', rfl, ?_⟩⟩, fun h => (by cases h), fun h1 h2 h3 => ?_⟩
    · rw [List.getElem?_map] at hi
      obtain ⟨j, hj, rfl⟩ := Option.map_eq_some_iff.1 hi
      obtain ⟨hj1, hj2⟩ := List.getElem?_eq_some_iff.1 hj
      simp at hj1 hj2
      subst hj2
      rw [(hx' i (by omega)).1, hB i hj1]
    · rw [hd] at h3
      have hs2 := sized_slice h1 h2 h3 Try.underlying26
      have hb : Try.prog.bytesOf 4 = 1 := by kernel_rfl
      rw [hb] at hs2
      simp only [List.length_map, List.length_range, reachBytes] at hs2
      omega
end Go.Proofs.Ytejmmjlmnfnacaa
