/- The operations of MacMarkers, as they came in, where their bulk is bounded. -/
import Derived.Test.YtlnhjllcgbdalaaDoorMacRows
import Derived.Test.YtlnhjllcgbdalaaDoorFrame
import Derived.Deep.Slices
import Derived.OpenShut
namespace Go.Proofs.YtlnhjllcgbdalaaDoor
open Go.ChangeShapes Go.WideShapes Go.ChangeAt Go.RowKit Go.Deep

namespace BulkOps
theorem pos {H : Type} (d : DataW H) : 1 ≤ Rows.uptoBulk d := by
  cases d with
  | lit l => cases l <;> simp [Rows.uptoBulk]
  | _ => simp [Rows.uptoBulk]

theorem places {H : Type} : ∀ l : List (DataW H), l.length ≤ Rows.uptoBulkAll l
  | [] => by simp [Rows.uptoBulkAll]
  | d :: r => by
    have h1 := pos d
    have h2 := places r
    simp only [Rows.uptoBulkAll, List.length_cons]
    omega

theorem part {H : Type} {d : DataW H} : ∀ {l : List (DataW H)}, d ∈ l → Rows.uptoBulk d ≤ Rows.uptoBulkAll l
  | x :: r, h => by
    simp only [Rows.uptoBulkAll]
    rcases List.mem_cons.1 h with rfl | h
    · omega
    · have := part h
      omega

theorem elems {H : Type} (l r : List (DataW H)) : Rows.uptoBulkAll l ≤ Rows.uptoBulk (.slice l r) := by
  simp only [Rows.uptoBulk]; omega
theorem fields {H : Type} (l : List (DataW H)) : Rows.uptoBulkAll l ≤ Rows.uptoBulk (.agg l) := by
  simp only [Rows.uptoBulk]; omega
end BulkOps

theorem open_ops {H : Type} {enc : TypeId × Value → H} {W : World} {a1 : Option Addr} {len1 cap1 fuel : Nat} {d1 : DataW H} {p1 : List MemPlace} (hb : Rows.uptoBulk d1 ≤ 1048576)
    (hf : DataW.trod enc Tryd.prog W 0 (fun _ => true) true fuel 30 (Value.slice a1 len1 cap1).cells.toList = some (d1, p1)) : OpsAt W a1 len1 ∧ len1 ≤ 1048576 := by
  rcases open_slice Tryd.underlying30 hf with ⟨hcs, _⟩ | ⟨x, ln, c, m, n, D, Pl, hcs, _, hl, hm, hmm, hx, hel⟩
  · simp [Value.cells] at hcs
    obtain ⟨rfl, rfl, rfl⟩ := hcs
    exact ⟨fun i hi => by omega, by omega⟩
  · simp [Value.cells] at hcs
    obtain ⟨rfl, rfl, rfl⟩ := hcs
    have hd : d1 = _ := (Prod.mk.inj hx).1
    simp only [if_true] at hmm
    have hC : Tryd.prog.cellsOf 43 = 2 := by kernel_rfl
    have e0 := BulkOps.elems (H := H) ((List.range len1).map D) ((List.range (m - len1)).map fun j => D (len1 + j))
    rw [← hd] at e0
    have e1 := BulkOps.places (H := H) ((List.range len1).map D)
    simp only [List.length_map, List.length_range] at e1
    refine ⟨fun i hi => ?_, by omega⟩
    obtain ⟨cs', h1, h2⟩ := hel i (by omega)
    rw [hC] at h1
    obtain ⟨-, hlen, hcell⟩ := World.cells?_some h1
    obtain ⟨xs, n', -, hxy, -, hxl, hfld⟩ := DataW.trod_struct Tryd.underlying43 h2
    have hD : D i = .agg (xs.map (·.1)) := (Prod.mk.inj hxy).1
    have f0 : DataW.trod enc Tryd.prog W 0 (fun _ => true) true n' 3 ((cs'.drop 0).take (Tryd.prog.cellsOf 3)) = xs[0]? := hfld 0 { name := "From", type := 3, offset := 0, embedded := false, tag := "", pkgPath := "", byteOffset := 0 } rfl
    have f1 : DataW.trod enc Tryd.prog W 0 (fun _ => true) true n' 22 ((cs'.drop 1).take (Tryd.prog.cellsOf 22)) = xs[1]? := hfld 1 { name := "B", type := 22, offset := 1, embedded := false, tag := "", pkgPath := "", byteOffset := 8 } rfl
    have c1 : Tryd.prog.cellsOf 3 = 1 := by kernel_rfl
    have c2 : Tryd.prog.cellsOf 22 = 1 := by kernel_rfl
    obtain ⟨u0, u1, rfl⟩ : ∃ u0 u1, cs' = [u0, u1] := by
      match cs', hlen with
      | [u0, u1], _ => exact ⟨u0, u1, rfl⟩
    rw [c1] at f0
    rw [c2] at f1
    have l2 : xs.length = 2 := hxl
    rw [List.getElem?_eq_getElem (by omega)] at f0 f1
    obtain ⟨k, e0', -, w0⟩ := DataW.trod_int Tryd.underlying3 f0
    simp at e0'
    subst e0'
    have z0 := hcell 0 (by omega)
    have z1 := hcell 1 (by omega)
    have hmem : xs[1].1 ∈ xs.map (·.1) := List.mem_map.2 ⟨xs[1], List.getElem_mem _, rfl⟩
    have b1 := BulkOps.part hmem
    have b2 := BulkOps.fields (H := H) (xs.map (·.1))
    rw [← hD] at b2
    have b3 := BulkOps.part (H := H) (d := D i) (l := (List.range len1).map D) (List.mem_map.2 ⟨i, List.mem_range.2 hi, rfl⟩)
    have hbulk : Rows.uptoBulk xs[1].1 ≤ 1048576 := by omega
    obtain ⟨A, L, C, t, e2, htl, hL, hLC, hby⟩ : ∃ A L C, ∃ t : List UInt8, u1 = .slice A L C ∧ t.length = L ∧ L ≤ 1048576 ∧ L ≤ C ∧ Bys W (.slice A L C) t := by
      obtain ⟨y, hy⟩ : ∃ y, y = xs[1] := ⟨_, rfl⟩
      rw [← hy] at f1 hbulk
      obtain ⟨yd, yp⟩ := y
      have f1' : DataW.trod enc Tryd.prog W 0 (fun _ => true) true n' 22 [u1] = some (yd, yp) := f1
      rcases open_ints Tryd.underlying22 Tryd.underlying5 (by kernel_rfl) f1' with ⟨hcs, _⟩ | ⟨x', l', c', zs, hcs, _, hl', hm', hz', hx', hcell', hwz'⟩
      · simp at hcs
        subst hcs
        exact ⟨none, 0, 0, [], rfl, rfl, by omega, by omega, .inl ⟨rfl, rfl⟩⟩
      · simp at hcs
        subst hcs
        simp only [if_true] at hz'
        obtain ⟨t, ht, hbt⟩ := IsRow.bys (w := W) (a := some x') (len := l') (cap := c') (zs := zs) (.inr ⟨_, rfl, hl', hm', hz', hcell', hwz'⟩)
        refine ⟨some x', l', c', t, rfl, ht, ?_, hl', hbt⟩
        have hd2 : yd = _ := (Prod.mk.inj hx').1
        simp only at hbulk
        rw [hd2] at hbulk
        have g1 := BulkOps.elems (H := H) (lits .u8 (zs.take l')) (lits .u8 (zs.drop l'))
        have g2 := BulkOps.places (H := H) (lits .u8 (zs.take l'))
        simp only [lits, List.length_map, List.length_take] at g2
        simp only [lits] at g1 hbulk
        omega
    subst e2
    refine ⟨x, k, A, L, C, t, rfl, ?_, ?_, hby, htl, hL, hLC⟩
    · simpa [Addr.add] using z0
    · simpa [Addr.add] using z1
end Go.Proofs.YtlnhjllcgbdalaaDoor
