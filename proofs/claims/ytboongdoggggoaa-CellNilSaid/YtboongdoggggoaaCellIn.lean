/- Terms and votes, and choices, that came in. -/
import Derived.Test.YtboongdoggggoaaCellAwake
import Derived.Deep.Slices
import Derived.OpenShut
import Derived.SizedLaws
namespace Go.Proofs.Ytboongdoggggoaa
set_option maxRecDepth 20000
open Go.ChangeShapes Go.WideShapes Go.ChangeAt Go.RowKit Go.Deep Go.Maps DiskMath SwapMath CellMath

theorem int_u64 (n : Int) (h : (Lit.int .u64 n).wf = true) : ∃ k : Nat, n = k ∧ k < 18446744073709551616 := by
  have := bounds_u64 h
  exact ⟨n.toNat, by omega, by omega⟩

/-- A term and a vote as cells. -/
abbrev hc (h : Hd) : Array Value := #[.int .u64 (h.1 : Int), .int .u64 (h.2 : Int)]

theorem hard_open {H : Type} {enc : TypeId × Value → H} {W : World} {base : Nat} {spare : Nat → Bool} {held : Bool} {fuel : Nat} {cs : List Value} {x : DataW H × List MemPlace}
    (h : DataW.trod enc Try.prog W base spare held fuel 63 cs = some x) : ∃ g : Hd, okH g ∧ cs = (hc g).toList := by
  obtain ⟨xs, n', -, -, hlen, hxl, hfld⟩ := DataW.trod_struct Try.underlying63 h
  have f0 : DataW.trod enc Try.prog W base spare held n' 33 ((cs.drop 0).take (Try.prog.cellsOf 33)) = xs[0]? := hfld 0 { name := "Term", type := 33, offset := 0, embedded := false, tag := "", pkgPath := "", byteOffset := 0 } rfl
  have f1 : DataW.trod enc Try.prog W base spare held n' 33 ((cs.drop 1).take (Try.prog.cellsOf 33)) = xs[1]? := hfld 1 { name := "Vote", type := 33, offset := 1, embedded := false, tag := "", pkgPath := "", byteOffset := 8 } rfl
  have c0 : Try.prog.cellsOf 33 = 1 := by kernel_rfl
  have cr : Try.prog.cellsOf 63 = 2 := by kernel_rfl
  rw [cr] at hlen
  rw [c0] at f0 f1
  obtain ⟨u0, u1, rfl⟩ : ∃ u0 u1, cs = [u0, u1] := by
    match cs, hlen with
    | [u0, u1], _ => exact ⟨u0, u1, rfl⟩
  have l2 : xs.length = 2 := hxl
  rw [List.getElem?_eq_getElem (by omega)] at f0 f1
  obtain ⟨k0, e0, -, w0⟩ := DataW.trod_int Try.underlying33 f0
  obtain ⟨k1, e1, -, w1⟩ := DataW.trod_int Try.underlying33 f1
  simp at e0 e1
  obtain ⟨n0, rfl, h0⟩ := int_u64 k0 w0
  obtain ⟨n1, rfl, h1⟩ := int_u64 k1 w1
  subst e0 e1
  exact ⟨(n0, n1), ⟨h0, h1⟩, rfl⟩

/-- Terms and votes in a row. -/
def Hls (w : World) (a : Option Addr) (L : List Hd) : Prop := ∀ (i : Nat) (h : Hd), L[i]? = some h → okH h ∧ ∃ ad, a = some ad ∧ w.cell? (ad.add (i * 2)) = some (.int .u64 (h.1 : Int)) ∧ w.cell? ⟨(ad.add (i * 2)).block, (ad.add (i * 2)).off + 1, none⟩ = some (.int .u64 (h.2 : Int))

theorem Hls.below {w w' : World} {a : Option Addr} {L : List Hd} (h : Hls w a L) (hb : Below w.heap.size w w') : Hls w' a L := fun i g hg => by
  obtain ⟨h0, ad, e, h1, h2⟩ := h i g hg
  have hcc : ∀ {p : Addr} {u : Value}, w.cell? p = some u → w'.cell? p = some u := fun {p u} hp => by rw [hb.cell (World.block_lt_of_cell? w _ hp)]; exact hp
  exact ⟨h0, ad, e, hcc h1, hcc h2⟩

theorem hards_open {H : Type} {enc : TypeId × Value → H} {W : World} {a1 : Option Addr} {len1 cap1 fuel : Nat} {x : DataW H × List MemPlace}
    (hf : DataW.trod enc Try.prog W 0 (fun _ => true) true fuel 61 (Value.slice a1 len1 cap1).cells.toList = some x) : ∃ L : List Hd, L.length = len1 ∧ Hls W a1 L ∧ len1 ≤ cap1 ∧ cap1 ≤ 9223372036854775807 := by
  rcases open_slice Try.underlying61 hf with ⟨hcs, _⟩ | ⟨ad, ln, c, m, n, D, Pl, hcs, _, hl, hm, hmm, hx, hel⟩
  · simp [Value.cells] at hcs
    obtain ⟨rfl, rfl, rfl⟩ := hcs
    exact ⟨[], rfl, fun i o hi => (by simp at hi), Nat.le_refl _, by omega⟩
  · simp [Value.cells] at hcs
    obtain ⟨rfl, rfl, rfl⟩ := hcs
    have hC : Try.prog.cellsOf 63 = 2 := by kernel_rfl
    simp only [if_true] at hmm
    have hall : ∀ i, ∃ g : Hd, i < len1 → okH g ∧ W.cell? (ad.add (i * 2)) = some (.int .u64 (g.1 : Int)) ∧ W.cell? ⟨(ad.add (i * 2)).block, (ad.add (i * 2)).off + 1, none⟩ = some (.int .u64 (g.2 : Int)) := fun i => by
      by_cases hi : i < len1
      · obtain ⟨cs', h1, h2⟩ := hel i (by omega)
        rw [hC] at h1
        obtain ⟨-, hlen, hcell⟩ := World.cells?_some h1
        obtain ⟨g, hg, rfl⟩ := hard_open h2
        have z0 := hcell 0 (by decide)
        have z1 := hcell 1 (by decide)
        refine ⟨g, fun _ => ⟨hg, ?_, ?_⟩⟩
        · simpa [Addr.add] using z0
        · simpa [Addr.add] using z1
      · exact ⟨(0, 0), fun h => absurd h hi⟩
    refine ⟨(List.range len1).map fun i => Classical.choose (hall i), by simp, fun i h hi => ?_, by omega, by unfold maxLen at hm; omega⟩
    rw [List.getElem?_map] at hi
    obtain ⟨j, hj, rfl⟩ := Option.map_eq_some_iff.1 hi
    obtain ⟨hj1, hj2⟩ := List.getElem?_eq_some_iff.1 hj
    simp at hj1 hj2
    subst hj2
    obtain ⟨e1, e2, e3⟩ := Classical.choose_spec (hall i) hj1
    exact ⟨e1, ad, rfl, e2, e3⟩

/-- Choices that came in, and how many. -/
theorem open_bls {H : Type} {enc : TypeId × Value → H} {W : World} {a1 : Option Addr} {len1 cap1 fuel : Nat} {d1 : DataW H} {p1 : List MemPlace}
    (hf : DataW.trod enc Try.prog W 0 (fun _ => true) true fuel 64 (Value.slice a1 len1 cap1).cells.toList = some (d1, p1)) : ∃ ks : List Bool, ks.length = len1 ∧ Bls W (.slice a1 len1 cap1) ks ∧ (a1 = none → cap1 = 0) ∧ ∀ {ts : List TypeId} {ds : List (DataW H)} {j : Nat}, (DataW.weightsEach Try.prog ts ds).all (· ≤ reachBytes) = true → ts[j]? = some 64 → ds[j]? = some d1 → len1 ≤ 140737488351232 := by
  have f5 : DataW.trod enc Try.prog W 0 (fun _ => true) true fuel 64 [Value.slice a1 len1 cap1] = some (d1, p1) := hf
  rcases open_slice1 Try.underlying64 (by kernel_rfl) f5 with ⟨hcs, _⟩ | ⟨x', l', c', m', n'', V, D', Pl', hcs, _, hl', hm', hmm', hxd, hx'⟩
  · simp at hcs
    obtain ⟨rfl, rfl, rfl⟩ := hcs
    exact ⟨[], rfl, ⟨none, 0, rfl, fun i b h => (by simp at h)⟩, fun _ => rfl, fun _ _ _ => by omega⟩
  · simp at hcs
    obtain ⟨rfl, rfl, rfl⟩ := hcs
    have hd : d1 = _ := (Prod.mk.inj hxd).1
    simp only [if_true] at hmm'
    obtain ⟨B, hB⟩ := choose_lt (α := Bool) (n := len1) (p := fun i b => V i = .bool b) (fun i hi => by
      obtain ⟨b, h1, -⟩ := DataW.trod_bool Try.underlying4 (hx' i (by omega)).2
      exact ⟨b, by simpa using h1⟩)
    refine ⟨(List.range len1).map B, by simp, ⟨some x', cap1, by simp, fun i b hi => ⟨x', rfl, ?_⟩⟩, fun h => (by cases h), fun h1 h2 h3 => ?_⟩
    · rw [List.getElem?_map] at hi
      obtain ⟨j, hj, rfl⟩ := Option.map_eq_some_iff.1 hi
      obtain ⟨hj1, hj2⟩ := List.getElem?_eq_some_iff.1 hj
      simp at hj1 hj2
      subst hj2
      rw [(hx' i (by omega)).1, hB i hj1]
    · rw [hd] at h3
      have hs2 := sized_slice h1 h2 h3 Try.underlying64
      have hb : Try.prog.bytesOf 4 = 1 := by kernel_rfl
      rw [hb] at hs2
      simp only [List.length_map, List.length_range, reachBytes] at hs2
      omega
end Go.Proofs.Ytboongdoggggoaa
