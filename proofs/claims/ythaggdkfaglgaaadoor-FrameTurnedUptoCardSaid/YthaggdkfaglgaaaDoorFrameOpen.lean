/- Lists of texts and bytes that came in, their bulk bounded. -/
import Derived.Test.YthaggdkfaglgaaaDoorFrameKit
namespace Go.Proofs.YthaggdkfaglgaaaDoor
set_option maxRecDepth 20000
open Go.ChangeShapes Go.WideShapes Go.ChangeAt Go.RowKit Go.Deep

theorem opens_texts {H : Type} {enc : TypeId × Value → H} {W : World} {a1 : Option Addr} {len1 cap1 fuel : Nat} {d1 : DataW H} {p1 : List MemPlace} (hb : Rows.uptoBulk d1 ≤ 1048576)
    (hf : DataW.trod enc Tryd.prog W 0 (fun _ => true) true fuel 27 (Value.slice a1 len1 cap1).cells.toList = some (d1, p1)) : ∃ T : List (List UInt8), Txs W (.slice a1 len1 cap1) T ∧ (∀ t ∈ T, t.length ≤ 1048576) ∧ (T.length ≤ 1048576 ∧ T.length = len1 ∧ len1 ≤ cap1) := by
  obtain ⟨T, h1, h2, h3, h4⟩ := open_texts hb hf
  refine ⟨T, h2.txs h1 h4, fun t ht => ?_, by omega, h1, h4⟩
  obtain ⟨i, hi⟩ := List.mem_iff_getElem?.1 ht
  exact (h2 i t hi).1

theorem opens_bytes {H : Type} {enc : TypeId × Value → H} {W : World} {a : Option Addr} {len cap fuel : Nat} {d : DataW H} {p : List MemPlace} (hb : Rows.uptoBulk d ≤ 1048576)
    (hf : DataW.trod enc Tryd.prog W 0 (fun _ => true) true fuel 22 (Value.slice a len cap).cells.toList = some (d, p)) : ∃ l : List UInt8, Bys W (.slice a len cap) l ∧ l.length = len ∧ (l.length ≤ 1048576 ∧ len ≤ cap) := by
  rcases open_ints Tryd.underlying22 Tryd.underlying5 (by kernel_rfl) hf with ⟨hcs, _⟩ | ⟨x, l, c, zs, hcs, _, hl, hm, hz, hx, hcell, hwz⟩
  · simp [Value.cells] at hcs
    obtain ⟨rfl, rfl, rfl⟩ := hcs
    exact ⟨[], .inl ⟨rfl, rfl⟩, rfl, by simp, by omega⟩
  · simp [Value.cells] at hcs
    obtain ⟨rfl, rfl, rfl⟩ := hcs
    have hd : d = _ := (Prod.mk.inj hx).1
    simp only [if_true] at hz
    obtain ⟨N, h1, h2⟩ := IsRow.bys (.inr ⟨_, rfl, hl, hm, hz, hcell, hwz⟩)
    refine ⟨N, h2, h1, ?_, hl⟩
    have e := Bulk.elems (H := H) (lits .u8 (zs.take len)) (lits .u8 (zs.drop len))
    rw [← hd] at e
    have e2 := Bulk.places (H := H) (lits .u8 (zs.take len))
    simp only [lits, List.length_map, List.length_take] at e2
    simp only [lits] at e
    omega
end Go.Proofs.YthaggdkfaglgaaaDoor
