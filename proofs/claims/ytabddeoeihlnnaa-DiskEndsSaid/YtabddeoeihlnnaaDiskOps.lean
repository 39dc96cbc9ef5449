/- The calls of a script, as they came in; what a law looks at of them. -/
import Derived.Test.YtabddeoeihlnnaaRefCrash
import Derived.Test.YtabddeoeihlnnaaFrame
import Derived.Deep.Slices
import Derived.OpenShut
namespace Go.Proofs.Ytabddeoeihlnnaa
open Go.ChangeShapes Go.WideShapes Go.ChangeAt Go.RowKit Go.Deep Go.Maps DiskMath

/-- A call of a script. -/
structure LOp where
  kind : Int
  name : Nm
  q : Nm
  n : Int
  b : List UInt8
  keep : List Bool

instance : Inhabited LOp := ⟨⟨0, [], [], 0, [], []⟩⟩

structure LOk (o : LOp) : Prop where
  kind : -9223372036854775808 ≤ o.kind ∧ o.kind ≤ 9223372036854775807
  name : o.name.length ≤ 9223372036854775807
  q : o.q.length ≤ 9223372036854775807
  n : -9223372036854775808 ≤ o.n ∧ o.n ≤ 9223372036854775807
  b : o.b.length ≤ 9223372036854775807
  keep : o.keep.length ≤ 9223372036854775807

/-- The calls that came in. -/
def ScriptAt (W : World) (a : Option Addr) (L : List LOp) : Prop := ∀ (i : Nat) (o : LOp), L[i]? = some o → LOk o ∧ ∃ (ad : Addr) (A : Option Addr) (C : Nat) (KA : Option Addr) (KC : Nat), a = some ad ∧
  W.cell? (ad.add (i * 6)) = some (.int .i64 o.kind) ∧ W.cell? ⟨(ad.add (i * 6)).block, (ad.add (i * 6)).off + 1, none⟩ = some (nm o.name) ∧ W.cell? ⟨(ad.add (i * 6)).block, (ad.add (i * 6)).off + 2, none⟩ = some (nm o.q) ∧
  W.cell? ⟨(ad.add (i * 6)).block, (ad.add (i * 6)).off + 3, none⟩ = some (.int .i64 o.n) ∧ W.cell? ⟨(ad.add (i * 6)).block, (ad.add (i * 6)).off + 4, none⟩ = some (.slice A o.b.length C) ∧
  W.cell? ⟨(ad.add (i * 6)).block, (ad.add (i * 6)).off + 5, none⟩ = some (.slice KA o.keep.length KC) ∧ Bys W (.slice A o.b.length C) o.b ∧ Bls W (.slice KA o.keep.length KC) o.keep

theorem ScriptAt.below {W W' : World} {a : Option Addr} {L : List LOp} (h : ScriptAt W a L) (hb : Below W.heap.size W W') : ScriptAt W' a L := fun i o hi => by
  obtain ⟨h0, ad, A, C, KA, KC, h1, h2, h3, h4, h5, h6, h7, h8, h9⟩ := h i o hi
  have hc : ∀ {p : Addr} {u : Value}, W.cell? p = some u → W'.cell? p = some u := fun {p u} hp => by rw [hb.cell (World.block_lt_of_cell? W _ hp)]; exact hp
  exact ⟨h0, ad, A, C, KA, KC, h1, hc h2, hc h3, hc h4, hc h5, hc h6, hc h7, h8.below (Nat.le_refl _) hb, h9.below hb⟩

set_option maxRecDepth 20000 in
theorem open_script {H : Type} {enc : TypeId × Value → H} {W : World} {a1 : Option Addr} {len1 cap1 fuel : Nat} {d1 : DataW H} {p1 : List MemPlace}
    (hf : DataW.trod enc Try.prog W 0 (fun _ => true) true fuel 22 (Value.slice a1 len1 cap1).cells.toList = some (d1, p1)) : ∃ L : List LOp, L.length = len1 ∧ ScriptAt W a1 L ∧ len1 ≤ 9223372036854775807 ∧ True := by
  rcases open_slice Try.underlying22 hf with ⟨hcs, _⟩ | ⟨x, ln, c, m, n, D, Pl, hcs, _, hl, hm, hmm, hx, hel⟩
  · simp [Value.cells] at hcs
    obtain ⟨rfl, rfl, rfl⟩ := hcs
    exact ⟨[], rfl, fun i o hi => by simp at hi, by omega, trivial⟩
  · simp [Value.cells] at hcs
    obtain ⟨rfl, rfl, rfl⟩ := hcs
    simp only [if_true] at hmm
    have hC : Try.prog.cellsOf 33 = 6 := by kernel_rfl
    have each : ∀ i, i < len1 → ∃ o : LOp, LOk o ∧ ∃ (A : Option Addr) (C : Nat) (KA : Option Addr) (KC : Nat),
        W.cell? (x.add (i * 6)) = some (.int .i64 o.kind) ∧ W.cell? ⟨(x.add (i * 6)).block, (x.add (i * 6)).off + 1, none⟩ = some (nm o.name) ∧ W.cell? ⟨(x.add (i * 6)).block, (x.add (i * 6)).off + 2, none⟩ = some (nm o.q) ∧
        W.cell? ⟨(x.add (i * 6)).block, (x.add (i * 6)).off + 3, none⟩ = some (.int .i64 o.n) ∧ W.cell? ⟨(x.add (i * 6)).block, (x.add (i * 6)).off + 4, none⟩ = some (.slice A o.b.length C) ∧
        W.cell? ⟨(x.add (i * 6)).block, (x.add (i * 6)).off + 5, none⟩ = some (.slice KA o.keep.length KC) ∧ Bys W (.slice A o.b.length C) o.b ∧ Bls W (.slice KA o.keep.length KC) o.keep := by
      intro i hi
      obtain ⟨cs', h1, h2⟩ := hel i (by omega)
      rw [hC] at h1
      obtain ⟨-, hlen, hcell⟩ := World.cells?_some h1
      obtain ⟨xs, n', -, hxy, -, hxl, hfld⟩ := DataW.trod_struct Try.underlying33 h2
      have f0 : DataW.trod enc Try.prog W 0 (fun _ => true) true n' 3 ((cs'.drop 0).take (Try.prog.cellsOf 3)) = xs[0]? := hfld 0 { name := "Kind", type := 3, offset := 0, embedded := false, tag := "", pkgPath := "", byteOffset := 0 } rfl
      have f1 : DataW.trod enc Try.prog W 0 (fun _ => true) true n' 9 ((cs'.drop 1).take (Try.prog.cellsOf 9)) = xs[1]? := hfld 1 { name := "Name", type := 9, offset := 1, embedded := false, tag := "", pkgPath := "", byteOffset := 8 } rfl
      have f2 : DataW.trod enc Try.prog W 0 (fun _ => true) true n' 9 ((cs'.drop 2).take (Try.prog.cellsOf 9)) = xs[2]? := hfld 2 { name := "To", type := 9, offset := 2, embedded := false, tag := "", pkgPath := "", byteOffset := 24 } rfl
      have f3 : DataW.trod enc Try.prog W 0 (fun _ => true) true n' 3 ((cs'.drop 3).take (Try.prog.cellsOf 3)) = xs[3]? := hfld 3 { name := "N", type := 3, offset := 3, embedded := false, tag := "", pkgPath := "", byteOffset := 40 } rfl
      have f4 : DataW.trod enc Try.prog W 0 (fun _ => true) true n' 30 ((cs'.drop 4).take (Try.prog.cellsOf 30)) = xs[4]? := hfld 4 { name := "B", type := 30, offset := 4, embedded := false, tag := "", pkgPath := "", byteOffset := 48 } rfl
      have f5 : DataW.trod enc Try.prog W 0 (fun _ => true) true n' 31 ((cs'.drop 5).take (Try.prog.cellsOf 31)) = xs[5]? := hfld 5 { name := "Keep", type := 31, offset := 5, embedded := false, tag := "", pkgPath := "", byteOffset := 72 } rfl
      have c1 : Try.prog.cellsOf 3 = 1 := by kernel_rfl
      have c2 : Try.prog.cellsOf 30 = 1 := by kernel_rfl
      have c3 : Try.prog.cellsOf 9 = 1 := by kernel_rfl
      have c4 : Try.prog.cellsOf 31 = 1 := by kernel_rfl
      obtain ⟨u0, u1, u2, u3, u4, u5, rfl⟩ : ∃ u0 u1 u2 u3 u4 u5, cs' = [u0, u1, u2, u3, u4, u5] := by
        match cs', hlen with
        | [u0, u1, u2, u3, u4, u5], _ => exact ⟨u0, u1, u2, u3, u4, u5, rfl⟩
      rw [c1] at f0 f3
      rw [c3] at f1 f2
      rw [c2] at f4
      rw [c4] at f5
      have l6 : xs.length = 6 := hxl
      rw [List.getElem?_eq_getElem (by omega)] at f0 f1 f2 f3 f4 f5
      obtain ⟨k, e0, -, w0⟩ := DataW.trod_int Try.underlying3 f0
      obtain ⟨s1, e1, -, w1⟩ := DataW.trod_string Try.underlying9 f1
      obtain ⟨s2, e2, -, w2⟩ := DataW.trod_string Try.underlying9 f2
      obtain ⟨n3, e3, -, w3⟩ := DataW.trod_int Try.underlying3 f3
      simp at e0 e1 e2 e3
      subst e0
      subst e1
      subst e2
      subst e3
      have z0 := hcell 0 (by omega)
      have z1 := hcell 1 (by omega)
      have z2 := hcell 2 (by omega)
      have z3 := hcell 3 (by omega)
      have z4 := hcell 4 (by omega)
      have z5 := hcell 5 (by omega)
      obtain ⟨A, C, t, g4, htl, hby⟩ : ∃ A C, ∃ t : List UInt8, u4 = .slice A t.length C ∧ t.length ≤ 9223372036854775807 ∧ Bys W (.slice A t.length C) t := by
        obtain ⟨y, hy⟩ : ∃ y, y = xs[4] := ⟨_, rfl⟩
        rw [← hy] at f4
        obtain ⟨yd, yp⟩ := y
        have f4' : DataW.trod enc Try.prog W 0 (fun _ => true) true n' 30 [u4] = some (yd, yp) := f4
        rcases open_ints Try.underlying30 Try.underlying5 (by kernel_rfl) f4' with ⟨hcs, _⟩ | ⟨x', l', c', zs, hcs, _, hl', hm', hz', hx', hcell', hwz'⟩
        · simp at hcs
          subst hcs
          exact ⟨none, 0, [], rfl, by simp, .inl ⟨rfl, rfl⟩⟩
        · simp at hcs
          subst hcs
          simp only [if_true] at hz'
          obtain ⟨t, ht, hbt⟩ := IsRow.bys (w := W) (a := some x') (len := l') (cap := c') (zs := zs) (.inr ⟨_, rfl, hl', hm', hz', hcell', hwz'⟩)
          subst ht
          exact ⟨some x', c', t, rfl, by unfold maxLen at hm'; omega, hbt⟩
      obtain ⟨KA, KC, ks, g5, hkl, hbl⟩ : ∃ A C, ∃ t : List Bool, u5 = .slice A t.length C ∧ t.length ≤ 9223372036854775807 ∧ Bls W (.slice A t.length C) t := by
        obtain ⟨y, hy⟩ : ∃ y, y = xs[5] := ⟨_, rfl⟩
        rw [← hy] at f5
        obtain ⟨yd, yp⟩ := y
        have f5' : DataW.trod enc Try.prog W 0 (fun _ => true) true n' 31 [u5] = some (yd, yp) := f5
        rcases open_slice1 Try.underlying31 (by kernel_rfl) f5' with ⟨hcs, _⟩ | ⟨x', l', c', m', n'', V, D', Pl', hcs, _, hl', hm', hmm', _, hx'⟩
        · simp at hcs
          subst hcs
          exact ⟨none, 0, [], rfl, by simp, ⟨none, 0, rfl, fun i b hi => by simp at hi⟩⟩
        · simp at hcs
          subst hcs
          simp only [if_true] at hmm'
          obtain ⟨B, hB⟩ := choose_lt (α := Bool) (n := l') (p := fun i b => V i = .bool b) (fun i hi => by
            obtain ⟨b, h1, -⟩ := DataW.trod_bool Try.underlying4 (hx' i (by omega)).2
            exact ⟨b, by simpa using h1⟩)
          refine ⟨some x', c', (List.range l').map B, by simp, by unfold maxLen at hm'; simp; omega, ⟨some x', c', rfl, fun i b hi => ⟨x', rfl, ?_⟩⟩⟩
          rw [List.getElem?_map] at hi
          obtain ⟨j, hj, rfl⟩ := Option.map_eq_some_iff.1 hi
          obtain ⟨hj1, hj2⟩ := List.getElem?_eq_some_iff.1 hj
          simp at hj1 hj2
          subst hj2
          rw [(hx' i (by omega)).1, hB i hj1]
      subst g4
      subst g5
      have b0 := bounds_i64 w0
      have b3 := bounds_i64 w3
      refine ⟨⟨k, s1.data.toList, s2.data.toList, n3, t, ks⟩, ⟨b0, ?_, ?_, b3, htl, hkl⟩, A, C, KA, KC, ?_, ?_, ?_, ?_, ?_, ?_, hby, hbl⟩
      · show s1.data.toList.length ≤ _
        have h : s1.data.size ≤ maxLen := w1
        rw [Array.length_toList]
        unfold maxLen at h
        omega
      · show s2.data.toList.length ≤ _
        have h : s2.data.size ≤ maxLen := w2
        rw [Array.length_toList]
        unfold maxLen at h
        omega
      · simpa [Addr.add] using z0
      · show _ = some (nm s1.data.toList)
        rw [← nm_of]
        simpa [Addr.add] using z1
      · show _ = some (nm s2.data.toList)
        rw [← nm_of]
        simpa [Addr.add] using z2
      · simpa [Addr.add] using z3
      · simpa [Addr.add] using z4
      · simpa [Addr.add] using z5
    obtain ⟨f, hf⟩ := choose_lt each
    refine ⟨(List.range len1).map f, by simp, fun i o hi => ?_, by unfold maxLen at hm; omega, trivial⟩
    rw [List.getElem?_map] at hi
    obtain ⟨j, hj, rfl⟩ := Option.map_eq_some_iff.1 hi
    obtain ⟨hj1, hj2⟩ := List.getElem?_eq_some_iff.1 hj
    simp at hj1 hj2
    subst hj2
    obtain ⟨h0, A, C, KA, KC, h1⟩ := hf i hj1
    exact ⟨h0, x, A, C, KA, KC, rfl, h1⟩
end Go.Proofs.Ytabddeoeihlnnaa
