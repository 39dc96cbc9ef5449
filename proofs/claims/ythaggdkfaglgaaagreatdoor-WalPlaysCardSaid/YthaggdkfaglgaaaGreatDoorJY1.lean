/- Joined: WalOps, WalFew, WalPlay, WalLoop, WalPlay2. -/
import Derived.Test.YthaggdkfaglgaaaGreatDoorJX2
import Derived.Deep.Slices
import Derived.OpenShut
import Derived.Test.YthaggdkfaglgaaaGreatDoorWalCall0J
import Derived.Test.YthaggdkfaglgaaaGreatDoorWalCall1J
import Derived.Test.YthaggdkfaglgaaaGreatDoorWalCall2J
import Derived.Test.YthaggdkfaglgaaaGreatDoorWalCall3J
import Derived.Test.YthaggdkfaglgaaaGreatDoorWalCall4J
/- The calls of a script, as they came in. -/
namespace Go.Proofs.YthaggdkfaglgaaaGreatDoor
set_option maxRecDepth 20000
open Go.ChangeShapes Go.WideShapes Go.ChangeAt Go.RowKit Go.Deep Go.Maps DiskMath

/-- A call of a script. -/
structure WOp where
  kind : Int
  n : Int
  b : List UInt8
  keep : List Bool

instance : Inhabited WOp := ⟨⟨0, 0, [], []⟩⟩

structure WOk (o : WOp) : Prop where
  kind : -9223372036854775808 ≤ o.kind ∧ o.kind ≤ 9223372036854775807
  n : -9223372036854775808 ≤ o.n ∧ o.n ≤ 9223372036854775807
  b : o.b.length ≤ 9223372036854775807
  keep : o.keep.length ≤ 9223372036854775807

/-- The calls that came in. -/
def ScriptAt (W : World) (a : Option Addr) (L : List WOp) : Prop := ∀ (i : Nat) (o : WOp), L[i]? = some o → WOk o ∧ ∃ (ad : Addr) (A : Option Addr) (C : Nat) (KA : Option Addr) (KC : Nat), a = some ad ∧
  W.cell? (ad.add (i * 4)) = some (.int .i64 o.kind) ∧ W.cell? ⟨(ad.add (i * 4)).block, (ad.add (i * 4)).off + 1, none⟩ = some (.int .i64 o.n) ∧
  W.cell? ⟨(ad.add (i * 4)).block, (ad.add (i * 4)).off + 2, none⟩ = some (.slice A o.b.length C) ∧
  W.cell? ⟨(ad.add (i * 4)).block, (ad.add (i * 4)).off + 3, none⟩ = some (.slice KA o.keep.length KC) ∧ Bys W (.slice A o.b.length C) o.b ∧ Bls W (.slice KA o.keep.length KC) o.keep

theorem ScriptAt.below {W W' : World} {a : Option Addr} {L : List WOp} (h : ScriptAt W a L) (hb : Below W.heap.size W W') : ScriptAt W' a L := fun i o hi => by
  obtain ⟨h0, ad, A, C, KA, KC, h1, h2, h3, h4, h5, h6, h7⟩ := h i o hi
  have hc : ∀ {p : Addr} {u : Value}, W.cell? p = some u → W'.cell? p = some u := fun {p u} hp => by rw [hb.cell (World.block_lt_of_cell? W _ hp)]; exact hp
  exact ⟨h0, ad, A, C, KA, KC, h1, hc h2, hc h3, hc h4, hc h5, h6.below (Nat.le_refl _) hb, h7.below hb⟩

theorem open_bytes9 {H : Type} {enc : TypeId × Value → H} {W : World} {n' : Nat} {u4 : Value} {y : DataW H × List MemPlace} (f4 : DataW.trod enc Tryz.prog W 0 (fun _ => true) true n' 27 [u4] = some y) :
    ∃ A C, ∃ t : List UInt8, u4 = .slice A t.length C ∧ t.length ≤ 9223372036854775807 ∧ Bys W (.slice A t.length C) t := by
  obtain ⟨yd, yp⟩ := y
  have f4' : DataW.trod enc Tryz.prog W 0 (fun _ => true) true n' 27 [u4] = some (yd, yp) := f4
  rcases open_ints Tryz.underlying27 Tryz.underlying5 (by kernel_rfl) f4' with ⟨hcs, _⟩ | ⟨x', l', c', zs, hcs, _, hl', hm', hz', hx', hcell', hwz'⟩
  · simp at hcs
    subst hcs
    exact ⟨none, 0, [], rfl, by simp, .inl ⟨rfl, rfl⟩⟩
  · simp at hcs
    subst hcs
    simp only [if_true] at hz'
    obtain ⟨t, ht, hbt⟩ := IsRow.bys (w := W) (a := some x') (len := l') (cap := c') (zs := zs) (.inr ⟨_, rfl, hl', hm', hz', hcell', hwz'⟩)
    subst ht
    exact ⟨some x', c', t, rfl, by unfold maxLen at hm'; omega, hbt⟩

theorem open_bools9 {H : Type} {enc : TypeId × Value → H} {W : World} {n' : Nat} {u5 : Value} {y : DataW H × List MemPlace} (f5 : DataW.trod enc Tryz.prog W 0 (fun _ => true) true n' 28 [u5] = some y) :
    ∃ A C, ∃ t : List Bool, u5 = .slice A t.length C ∧ t.length ≤ 9223372036854775807 ∧ Bls W (.slice A t.length C) t := by
  obtain ⟨yd, yp⟩ := y
  have f5' : DataW.trod enc Tryz.prog W 0 (fun _ => true) true n' 28 [u5] = some (yd, yp) := f5
  rcases open_slice1 Tryz.underlying28 (by kernel_rfl) f5' with ⟨hcs, _⟩ | ⟨x', l', c', m', n'', V, D', Pl', hcs, _, hl', hm', hmm', _, hx'⟩
  · simp at hcs
    subst hcs
    exact ⟨none, 0, [], rfl, by simp, ⟨none, 0, rfl, fun i b hi => by simp at hi⟩⟩
  · simp at hcs
    subst hcs
    simp only [if_true] at hmm'
    obtain ⟨B, hB⟩ := choose_lt (α := Bool) (n := l') (p := fun i b => V i = .bool b) (fun i hi => by
      obtain ⟨b, h1, -⟩ := DataW.trod_bool Tryz.underlying4 (hx' i (by omega)).2
      exact ⟨b, by simpa using h1⟩)
    refine ⟨some x', c', (List.range l').map B, by simp, by unfold maxLen at hm'; simp; omega, ⟨some x', c', rfl, fun i b hi => ⟨x', rfl, ?_⟩⟩⟩
    rw [List.getElem?_map] at hi
    obtain ⟨j, hj, rfl⟩ := Option.map_eq_some_iff.1 hi
    obtain ⟨hj1, hj2⟩ := List.getElem?_eq_some_iff.1 hj
    simp at hj1 hj2
    subst hj2
    rw [(hx' i (by omega)).1, hB i hj1]

/-- Choices that came in. -/
theorem open_bls {H : Type} {enc : TypeId × Value → H} {W : World} {a1 : Option Addr} {len1 cap1 fuel : Nat} {d1 : DataW H} {p1 : List MemPlace}
    (hf : DataW.trod enc Tryz.prog W 0 (fun _ => true) true fuel 28 (Value.slice a1 len1 cap1).cells.toList = some (d1, p1)) : ∃ ks : List Bool, ks.length = len1 ∧ Bls W (.slice a1 len1 cap1) ks ∧ len1 ≤ 9223372036854775807 ∧ True := by
  obtain ⟨A, C, t, e, hl, hb⟩ := open_bools9 (u5 := .slice a1 len1 cap1) hf
  cases e
  exact ⟨t, rfl, hb, hl, trivial⟩

/-- One call that came in. -/
theorem open_op {H : Type} {enc : TypeId × Value → H} {W : World} {fuel : Nat} {cs' : List Value} {y : DataW H × List MemPlace} (h2 : DataW.trod enc Tryz.prog W 0 (fun _ => true) true fuel 30 cs' = some y) :
    ∃ o : WOp, WOk o ∧ ∃ (A : Option Addr) (C : Nat) (KA : Option Addr) (KC : Nat), cs' = [.int .i64 o.kind, .int .i64 o.n, .slice A o.b.length C, .slice KA o.keep.length KC] ∧ Bys W (.slice A o.b.length C) o.b ∧ Bls W (.slice KA o.keep.length KC) o.keep := by
  have hC : Tryz.prog.cellsOf 30 = 4 := by kernel_rfl
  obtain ⟨xs, n', -, hxy, hlen, hxl, hfld⟩ := DataW.trod_struct Tryz.underlying30 h2
  have f0 : DataW.trod enc Tryz.prog W 0 (fun _ => true) true n' 3 ((cs'.drop 0).take (Tryz.prog.cellsOf 3)) = xs[0]? := hfld 0 { name := "Kind", type := 3, offset := 0, embedded := false, tag := "", pkgPath := "", byteOffset := 0 } rfl
  have f1 : DataW.trod enc Tryz.prog W 0 (fun _ => true) true n' 3 ((cs'.drop 1).take (Tryz.prog.cellsOf 3)) = xs[1]? := hfld 1 { name := "N", type := 3, offset := 1, embedded := false, tag := "", pkgPath := "", byteOffset := 8 } rfl
  have f2 : DataW.trod enc Tryz.prog W 0 (fun _ => true) true n' 27 ((cs'.drop 2).take (Tryz.prog.cellsOf 27)) = xs[2]? := hfld 2 { name := "B", type := 27, offset := 2, embedded := false, tag := "", pkgPath := "", byteOffset := 16 } rfl
  have f3 : DataW.trod enc Tryz.prog W 0 (fun _ => true) true n' 28 ((cs'.drop 3).take (Tryz.prog.cellsOf 28)) = xs[3]? := hfld 3 { name := "Keep", type := 28, offset := 3, embedded := false, tag := "", pkgPath := "", byteOffset := 40 } rfl
  have c1 : Tryz.prog.cellsOf 3 = 1 := by kernel_rfl
  have c2 : Tryz.prog.cellsOf 27 = 1 := by kernel_rfl
  have c4 : Tryz.prog.cellsOf 28 = 1 := by kernel_rfl
  rw [hC] at hlen
  obtain ⟨u0, u1, u2, u3, rfl⟩ : ∃ u0 u1 u2 u3, cs' = [u0, u1, u2, u3] := by
    match cs', hlen with
    | [u0, u1, u2, u3], _ => exact ⟨u0, u1, u2, u3, rfl⟩
  rw [c1] at f0 f1
  rw [c2] at f2
  rw [c4] at f3
  have l6 : xs.length = 4 := hxl
  rw [List.getElem?_eq_getElem (by omega)] at f0 f1 f2 f3
  obtain ⟨k, e0, -, w0⟩ := DataW.trod_int Tryz.underlying3 f0
  obtain ⟨n3, e3, -, w3⟩ := DataW.trod_int Tryz.underlying3 f1
  simp at e0 e3
  subst e0
  subst e3
  obtain ⟨A, C, t, rfl, htl, hby⟩ := open_bytes9 (W := W) f2
  obtain ⟨KA, KC, ks, rfl, hkl, hbl⟩ := open_bools9 (W := W) f3
  exact ⟨⟨k, n3, t, ks⟩, ⟨bounds_i64 w0, bounds_i64 w3, htl, hkl⟩, A, C, KA, KC, rfl, hby, hbl⟩

theorem open_script {H : Type} {enc : TypeId × Value → H} {W : World} {a1 : Option Addr} {len1 cap1 fuel : Nat} {d1 : DataW H} {p1 : List MemPlace}
    (hf : DataW.trod enc Tryz.prog W 0 (fun _ => true) true fuel 22 (Value.slice a1 len1 cap1).cells.toList = some (d1, p1)) : ∃ L : List WOp, L.length = len1 ∧ ScriptAt W a1 L ∧ len1 ≤ 9223372036854775807 ∧ True := by
  rcases open_slice Tryz.underlying22 hf with ⟨hcs, _⟩ | ⟨x, ln, c, m, n, D, Pl, hcs, _, hl, hm, hmm, hx, hel⟩
  · simp [Value.cells] at hcs
    obtain ⟨rfl, rfl, rfl⟩ := hcs
    exact ⟨[], rfl, fun i o hi => by simp at hi, by omega, trivial⟩
  · simp [Value.cells] at hcs
    obtain ⟨rfl, rfl, rfl⟩ := hcs
    simp only [if_true] at hmm
    have hC : Tryz.prog.cellsOf 30 = 4 := by kernel_rfl
    have each : ∀ i, i < len1 → ∃ o : WOp, WOk o ∧ ∃ (A : Option Addr) (C : Nat) (KA : Option Addr) (KC : Nat),
        W.cell? (x.add (i * 4)) = some (.int .i64 o.kind) ∧ W.cell? ⟨(x.add (i * 4)).block, (x.add (i * 4)).off + 1, none⟩ = some (.int .i64 o.n) ∧
        W.cell? ⟨(x.add (i * 4)).block, (x.add (i * 4)).off + 2, none⟩ = some (.slice A o.b.length C) ∧
        W.cell? ⟨(x.add (i * 4)).block, (x.add (i * 4)).off + 3, none⟩ = some (.slice KA o.keep.length KC) ∧ Bys W (.slice A o.b.length C) o.b ∧ Bls W (.slice KA o.keep.length KC) o.keep := by
      intro i hi
      obtain ⟨cs', h1, h2⟩ := hel i (by omega)
      rw [hC] at h1
      obtain ⟨-, hlen, hcell⟩ := World.cells?_some h1
      obtain ⟨o, hok, A, C, KA, KC, rfl, hby, hbl⟩ := open_op h2
      have z0 := hcell 0 (by omega)
      have z1 := hcell 1 (by omega)
      have z2 := hcell 2 (by omega)
      have z3 := hcell 3 (by omega)
      refine ⟨o, hok, A, C, KA, KC, ?_, ?_, ?_, ?_, hby, hbl⟩
      · simpa [Addr.add] using z0
      · simpa [Addr.add] using z1
      · simpa [Addr.add] using z2
      · simpa [Addr.add] using z3
    obtain ⟨f, hf⟩ := choose_lt each
    refine ⟨(List.range len1).map f, by simp, fun i o hi => ?_, by unfold maxLen at hm; omega, trivial⟩
    rw [List.getElem?_map] at hi
    obtain ⟨j, hj, rfl⟩ := Option.map_eq_some_iff.1 hi
    obtain ⟨hj1, hj2⟩ := List.getElem?_eq_some_iff.1 hj
    simp at hj1 hj2
    subst hj2
    obtain ⟨h0, A, C, KA, KC, h1⟩ := hf i hj1
    exact ⟨h0, x, A, C, KA, KC, rfl, h1⟩

theorem script_index (W : World) (ad : Addr) (n cap i : Nat) (hi : i < n) : (Instr.indexAt 22 (.slice (some ad) n cap) (.int .i64 (i : Int))).run Tryz.prog W = .ok (.pointer (some (ad.add (i * 4)))) W := by
  have he : Tryz.prog.elem 22 = 30 := by kernel_rfl
  have hs : (Go.sizeOf 30).run Tryz.prog W = .ok 4 W := by kernel_rfl
  have ht : Tryz.prog.underlying 22 = some (.slice (Tryz.prog.elem 22)) := by rw [he]; exact Tryz.underlying22
  rw [run_indexAt_slice (h := ht), if_pos (by omega), he, hs]
  simp [Result.andThen]

/-- Texts that are looked at. -/
def FewAll (L : List WOp) : Prop := ∀ (i : Nat) (o : WOp), L[i]? = some o → i < 60 → o.b.length ≤ 65536
def FewEnd (L : List WOp) (e : Ending) : Prop := ∃ t, e = .returned (.bool t) ∧ (t = true → FewAll L)

theorem bys_block {W : World} {a : Option Addr} {n c : Nat} {r : List UInt8} (h : Bys W (.slice a n c) r) (h0 : r ≠ []) {k : Nat} (hk : (Value.slice a n c).ownBlock = some k) : k < W.heap.size := by
  rcases h with ⟨-, h⟩ | ⟨ad, cap, e, h⟩
  · exact absurd h h0
  · cases e
    simp [Value.ownBlock] at hk
    subst hk
    have hl : 0 < r.length := List.length_pos_iff.2 h0
    exact World.block_lt_of_cell? W (ad.add 0) (h 0 hl)
end Go.Proofs.YthaggdkfaglgaaaGreatDoor

/- few: what a law looks at. -/
namespace Go.Proofs.YthaggdkfaglgaaaGreatDoor
set_option maxRecDepth 20000
open Go.RowKit Go.Maps DiskMath

/-- What of a text counts. -/
def cnt (o : WOp) : Nat := min o.b.length 1048576

set_option maxHeartbeats 1000000 in
theorem few_any {w : World} {a : Option Addr} {len cap : Nat} {L : List WOp} (h : ScriptAt w a L) (hl : L.length = len) (hlen : len ≤ 9223372036854775807) :
    Calls Tryz.prog 12 #[.slice a len cap] w fun e w' => FewEnd L e ∧ w = w' := by
  have HS := Lib.hid h
  have HL := Lib.hid hl
  have HLen := Lib.hid hlen
  have HMin := Lib.hid (fun (bl : Nat) (ts : Array TypeId) (t : TypeId) (W : World) => show (Builtin.min_ ts t #[.int .i64 (bl : Int), .int .i64 1048576]).run Tryz.prog W = .ok (.int .i64 ((min bl 1048576 : Nat) : Int)) W from by
    rw [run_min_int2]
    congr 2
    omega)
  clear h hl hlen
  go_enter Tryz.func12, Tryz.ntmps12
  go_wp2
  go_loop [3, 4] (fun s3 s4 => ∃ i n : Nat, i ≤ len ∧ i ≤ 60 ∧ s3 = .int .i64 n ∧ n ≤ 1048576 * i ∧ s4 = .int .i64 i ∧ Hid (∀ (j : Nat) (o : WOp), L[j]? = some o → j < i → cnt o ≤ n)) (fun _ s4 => 60 - (intOf s4).toNat)
  case atStart => exact ⟨0, 0, Nat.zero_le _, Nat.zero_le _, rfl, Nat.zero_le _, rfl, Lib.hid fun j o _ h => absurd h (Nat.not_lt_zero j)⟩
  case round =>
    obtain ⟨i, n, hi, hi60, rfl, hn, rfl, HAll⟩ := hrel
    have i0 : (0 : Int) ≤ (i : Int) := Int.natCast_nonneg _
    have n0 : (0 : Int) ≤ (n : Int) := Int.natCast_nonneg _
    have hn2 : n ≤ 62914560 := by omega
    have HEnd : Hid (¬ (i < len ∧ i < 60) → n ≤ 65536 → FewAll L) := Lib.hid fun hno hn6 j o hj hj60 => by
      have h1 := (List.getElem?_eq_some_iff.1 hj).1
      have h2 := HAll.out j o hj (by have := HL.out; omega)
      unfold cnt at h2
      omega
    by_cases hlt : i < len
    · have i1 : (i : Int) < (len : Int) := by omega
      have i2 : decide (i < len) = true := by simpa using hlt
      by_cases h60 : i < 60
      · have i3 : decide ((i : Int) < 60) = true := by simp; omega
        obtain ⟨o, ho⟩ : ∃ o, L[i]? = some o := ⟨L[i]'(by have := HL.out; omega), List.getElem?_eq_getElem _⟩
        obtain ⟨hok, ad, A, C, KA, KC, rfl, -, -, c2, -, -, -⟩ := HS.out i o ho
        have hidx : ∀ W, (Instr.indexAt 22 (.slice (some ad) len cap) (.int .i64 (i : Int))).run Tryz.prog W = .ok (.pointer (some (ad.add (i * 4)))) W := fun W => script_index W ad len cap i hlt
        obtain ⟨p, hp⟩ : ∃ p, p = ad.add (i * 4) := ⟨_, rfl⟩
        rw [← hp] at hidx c2
        obtain ⟨bl, hbl⟩ : ∃ bl, bl = o.b.length := ⟨_, rfl⟩
        rw [← hbl] at c2
        have hmin := HMin.out bl
        obtain ⟨y, hy⟩ : ∃ y, y = min bl 1048576 := ⟨_, rfl⟩
        rw [← hy] at hmin
        have hy2 : y ≤ 1048576 := by omega
        have HMore : Hid (∀ (j : Nat) (o : WOp), L[j]? = some o → j < i + 1 → cnt o ≤ n + y) := Lib.hid fun j o' hj hji => by
          by_cases he : j = i
          · subst he
            rw [ho] at hj
            cases hj
            unfold cnt
            rw [← hbl, ← hy]
            omega
          · have := HAll.out j o' hj (by omega)
            omega
        have HN5 := Lib.hid hn
        clear hp hok hbl ho HEnd HAll hn hy
        go_wp2
        refine ⟨⟨i + 1, n + y, by omega, by omega, by go_num, by have := HN5.out; omega, by go_num, HMore⟩, by simp [intOf]; omega⟩
      · have i3 : decide ((i : Int) < 60) = false := by simp; omega
        have HE := Lib.hid (HEnd.out (by omega))
        clear HEnd HAll
        go_wp2
        go_ret
        exact ⟨⟨_, rfl, fun h => HE.out (by simp at h; omega)⟩, rfl⟩
    · have i1 : decide ((i : Int) < (len : Int)) = false := by simp; omega
      have i2 : decide (i < len) = false := by simpa using hlt
      have HE := Lib.hid (HEnd.out (by omega))
      clear HEnd HAll
      go_wp2
      go_ret
      exact ⟨⟨_, rfl, fun h => HE.out (by simp at h; omega)⟩, rfl⟩
end Go.Proofs.YthaggdkfaglgaaaGreatDoor

/- A run as the laws play it: what each of its steps leaves. -/
namespace Go.Proofs.YthaggdkfaglgaaaGreatDoor
set_option maxRecDepth 20000
open Go.RowKit Go.Maps DiskMath WalMath FrameMath Reg

theorem call_any {w : World} {Z : Nat → Prop} {B : Nat} {s : St} {V : WS} {N : Nat} {kd n : Int} {ba : Option Addr} {bn bc : Nat} {ka : Option Addr} {kn kc : Nat} {r : List UInt8} (h : Run w Z B s V.first V.recs false V) (hi : Idle s V N) (hN : N ≤ 97) (ht : Tab w) (hZ : ¬ Z 0) (hn : -9223372036854775808 ≤ n ∧ n ≤ 9223372036854775807)
    (hb : ∀ W, OnlyS Z w W → Bys W (.slice ba bn bc) r) (hrl : r.length = bn) (hbl : bn ≤ 1048576) (hba : r ≠ [] → ∀ k, (Value.slice ba bn bc).ownBlock = some k → ¬ Z k ∧ k < w.heap.size) (k : Nat) (hk : k ≤ 4) :
    Calls Tryz.prog 14 #[.pointer (some ⟨B, 0, none⟩), .agg #[.int .i64 kd, .int .i64 n, .slice ba bn bc, .slice ka kn kc], .int .i64 (k : Int)] w (Called w Z B s N) := by
  match k, hk with
  | 0, _ => exact call0_any h hi hN ht hZ hn hb hrl hbl hba
  | 1, _ => exact call1_any h hi hN ht hZ hn hb hrl hbl hba
  | 2, _ => exact call2_any h hi hN ht hZ hn hb hrl hbl hba
  | 3, _ => exact call3_any h hi hN ht hZ hn hb hrl hbl hba
  | 4, _ => exact call4_any h hi hN ht hZ hn hb hrl hbl hba
  | k + 5, hk => exact absurd hk (by omega)

/-- A run between calls: its blocks are the law's own. -/
structure PlayR (w0 : World) (B : Nat) (s : St) (V : WS) (N : Nat) (W : World) : Prop where
  ex : ∃ Z : Nat → Prop, (∀ k, Z k → w0.heap.size ≤ k) ∧ Run W Z B s V.first V.recs false V
  idle : Idle s V N
  bel : Below w0.heap.size w0 W

/-- A run whose log isn't told. -/
structure PlayD (w0 : World) (B : Nat) (s : St) (V : WS) (N : Nat) (W : World) : Prop where
  ex : ∃ Z : Nat → Prop, (∀ k, Z k → w0.heap.size ≤ k) ∧ RunD W Z B s V
  num : V.first + V.recs.length ≤ N
  bel : Below w0.heap.size w0 W

/-- A run whose last call was lost. -/
structure PlayG (w0 : World) (B : Nat) (s : St) (V : WS) (N : Nat) (W : World) : Prop where
  d : PlayD w0 B s V N W
  gone : Gone s V N

section
variable {w0 W W' : World} {B : Nat} {s : St} {V : WS} {N : Nat}

theorem PlayR.d (h : PlayR w0 B s V N W) : PlayD w0 B s V N W := by
  obtain ⟨Z, hZ, hr⟩ := h.ex
  exact ⟨⟨Z, hZ, hr.disk⟩, h.idle.num, h.bel⟩

theorem PlayR.below (h : PlayR w0 B s V N W) (hb : Below W.heap.size W W') : PlayR w0 B s V N W' := by
  obtain ⟨Z, hZ, hr⟩ := h.ex
  exact ⟨⟨Z, hZ, hr.below hb⟩, h.idle, h.bel.trans (hb.mono h.bel.size)⟩

theorem PlayD.below (h : PlayD w0 B s V N W) (hb : Below W.heap.size W W') : PlayD w0 B s V N W' := by
  obtain ⟨Z, hZ, hr⟩ := h.ex
  exact ⟨⟨Z, hZ, hr.below hb⟩, h.num, h.bel.trans (hb.mono h.bel.size)⟩

theorem PlayG.below (h : PlayG w0 B s V N W) (hb : Below W.heap.size W W') : PlayG w0 B s V N W' := ⟨h.d.below hb, h.gone⟩

theorem PlayR.widen {N' : Nat} (h : PlayR w0 B s V N W) (hN : N ≤ N') : PlayR w0 B s V N' W := ⟨h.ex, h.idle.more hN, h.bel⟩
theorem PlayD.widen {N' : Nat} (h : PlayD w0 B s V N W) (hN : N ≤ N') : PlayD w0 B s V N' W := ⟨h.ex, Nat.le_trans h.num hN, h.bel⟩
theorem PlayG.widen {N' : Nat} (h : PlayG w0 B s V N W) (hN : N ≤ N') : PlayG w0 B s V N' W := ⟨h.d.widen hN, h.gone.more hN⟩

theorem above_more {Z : Nat → Prop} {W : World} (h : ∀ k, Z k → w0.heap.size ≤ k) (hs : w0.heap.size ≤ W.heap.size) (W' : World) : ∀ k, more W Z W' k → w0.heap.size ≤ k := fun k hk => by
  rcases hk with hk | hk
  · exact h k hk
  · omega

theorem bel_only {Z : Nat → Prop} (h : ∀ k, Z k → w0.heap.size ≤ k) (hb : Below w0.heap.size w0 W) (ho : OnlyS Z W W') : Below w0.heap.size w0 W' :=
  hb.trans (ho.below (fun k hk hz => by have := h k hz; omega) hb.size)

theorem not_own {Z : Nat → Prop} (h : ∀ k, Z k → w0.heap.size ≤ k) {k : Nat} (hk : k < w0.heap.size) : ¬ Z k := fun hz => by have := h k hz; omega

/-- What call leaves. -/
def Stepped (w0 : World) (B : Nat) (s : St) (N : Nat) (e : Ending) (W' : World) : Prop :=
  e = .returned (.bool true) ∧ ∃ s' V', (PlayR w0 B s' V' (N + 1) W' ∨ (PlayG w0 B s' V' (N + 1) W' ∧ ¬ Calm s)) ∧ (Calm s → Calm s')

theorem stepped_of {Z : Nat → Prop} {e : Ending} (hZ : ∀ k, Z k → w0.heap.size ≤ k) (hb : Below w0.heap.size w0 W) (h : Called W Z B s N e W') : Stepped w0 B s N e W' := by
  obtain ⟨rfl, ho, s', V', h1, h2⟩ := h
  refine ⟨rfl, s', V', ?_, h2⟩
  rcases h1 with ⟨h3, h4⟩ | ⟨h3, h4, h5⟩
  · exact .inl ⟨⟨_, above_more hZ hb.size W', h3⟩, h4, bel_only hZ hb ho⟩
  · exact .inr ⟨⟨⟨⟨_, above_more hZ hb.size W', h3⟩, h4.num, bel_only hZ hb ho⟩, h4⟩, h5⟩

/-- A call of a script that came in. -/
theorem play_call (h : PlayR w0 B s V N W) (hN : N ≤ 97) (ht : Tab w0) {kd n : Int} {ba : Option Addr} {bn bc : Nat} {ka : Option Addr} {kn kc : Nat} {r : List UInt8} (hn : -9223372036854775808 ≤ n ∧ n ≤ 9223372036854775807)
    (hb : Bys w0 (.slice ba bn bc) r) (hrl : r.length = bn) (hbl : bn ≤ 1048576) (k : Nat) (hk : k ≤ 4) :
    Calls Tryz.prog 14 #[.pointer (some ⟨B, 0, none⟩), .agg #[.int .i64 kd, .int .i64 n, .slice ba bn bc, .slice ka kn kc], .int .i64 (k : Int)] W (Stepped w0 B s N) := by
  obtain ⟨Z, hZ, hr⟩ := h.ex
  refine (call_any hr h.idle hN (ht.below (Nat.le_refl _) h.bel) (not_own hZ (tab_pos ht)) hn (fun W1 hW => hb.below (Nat.le_refl _) (bel_only hZ h.bel hW)) hrl hbl (fun h0 j hj => ?_) k hk).mono fun e W' hc => stepped_of hZ h.bel hc
  have := bys_block hb h0 hj
  exact ⟨not_own hZ this, Nat.lt_of_lt_of_le this h.bel.size⟩

/-- A call whose text was just made. -/
theorem play_call_new (h : PlayR w0 B s V N W) (hN : N ≤ 97) (ht : Tab w0) {kd n : Int} {ba : Option Addr} {bn bc : Nat} {ka : Option Addr} {kn kc : Nat} {r : List UInt8} (hn : -9223372036854775808 ≤ n ∧ n ≤ 9223372036854775807) (hbel : Below W.heap.size W W')
    (hb : Bys W' (.slice ba bn bc) r) (hrl : r.length = bn) (hbl : bn ≤ 1048576) (hba : r ≠ [] → ∀ k, (Value.slice ba bn bc).ownBlock = some k → W.heap.size ≤ k ∧ k < W'.heap.size) (k : Nat) (hk : k ≤ 4) :
    Calls Tryz.prog 14 #[.pointer (some ⟨B, 0, none⟩), .agg #[.int .i64 kd, .int .i64 n, .slice ba bn bc, .slice ka kn kc], .int .i64 (k : Int)] W' (Stepped w0 B s N) := by
  obtain ⟨Z, hZ, hr⟩ := h.ex
  have hb2 := h.bel.trans (hbel.mono h.bel.size)
  have hnZ : r ≠ [] → ∀ j, (Value.slice ba bn bc).ownBlock = some j → ¬ Z j := fun h0 j hj hz => by have := hr.lt j hz; have := (hba h0 j hj).1; omega
  refine (call_any (hr.below hbel) h.idle hN (ht.below (Nat.le_refl _) hb2) (not_own hZ (tab_pos ht)) hn (fun W1 hW => ?_) hrl hbl (fun h0 j hj => ⟨hnZ h0 j hj, (hba h0 j hj).2⟩) k hk).mono fun e W' hc => stepped_of hZ hb2 hc
  by_cases h0 : r = []
  · subst h0
    rcases hb with ⟨e, -⟩ | ⟨ad, cap, e, -⟩
    · exact .inl ⟨e, rfl⟩
    · exact .inr ⟨ad, cap, e, fun i hi => absurd hi (Nat.not_lt_zero i)⟩
  · exact bys_only hb fun j hj hlt => hW.block j hlt (hnZ h0 j hj)

/-- The run's disk, told of where it lies. -/
theorem PlayD.disk (h : PlayD w0 B s V N W) : ∃ d T c, c ≤ 700 ∧ W.cell? ⟨B, 0, none⟩ = some (dp d) ∧ IsDisk W T d c s ∧ ∀ c' s' W', c' ≤ 700 → Next W T d c' s' W' → PlayD w0 B s' V N W' := by
  obtain ⟨Z, hZ, hr⟩ := h.ex
  obtain ⟨d, lv, x, c, T, X, hc, hb, hd, hx, h1, h2, h3, h4, h5, h6⟩ := hr.ex
  refine ⟨d, T, c, hc, by rw [hb.cell]; rfl, hd, fun c' s' W' hc' hn => ?_⟩
  obtain ⟨q1, q2⟩ := RunD.next (c := c) (s := s) hr.lt hb hx h1 h2 h3 h4 h5 h6 hn hc'
  exact ⟨⟨_, above_more hZ h.bel.size W', q1⟩, h.num, bel_only hZ h.bel q2⟩

theorem PlayR.disk (h : PlayR w0 B s V N W) : ∃ d T c, c ≤ 700 ∧ W.cell? ⟨B, 0, none⟩ = some (dp d) ∧ IsDisk W T d c s ∧ ∀ c' s' W', c' ≤ 700 → Idle s' V N → Next W T d c' s' W' → PlayR w0 B s' V N W' := by
  obtain ⟨Z, hZ, hr⟩ := h.ex
  obtain ⟨d, l, x, c, S, X, hc, hb, hp, hx, h1, h2, h3, h4, h5, h6⟩ := hr.ex
  obtain ⟨T, U, hd, hl, k3, k4, k5⟩ := hp.ex
  refine ⟨d, T, c, hc, by rw [hb.cell]; rfl, hd, fun c' s' W' hc' hi hn => ?_⟩
  have hpn := PNx.ofNext hp.lt k3 k4 k5 hl hn
  have hsz := hpn.only.size
  have ho : OnlyS Z W W' := hpn.only.mono fun k _ hk => h1 k hk
  refine ⟨⟨more W Z W', above_more hZ h.bel.size W', ⟨⟨d, l, x, c', more W S W', X, hc', ?_, hpn.pr, hx.same (fun k hk => hpn.only.block k (hx.lt k hk) fun hs => h3 k hs hk) hsz, fun k hk => ?_, fun k hk => .inl (h2 k hk), fun k hk hX => ?_, fun hk => ?_, h5, .inl h6⟩, fun k hk => ?_⟩⟩, hi, bel_only hZ h.bel ho⟩
  · unfold Blk
    rw [hpn.only.block B hb.lt h4]
    exact hb
  · rcases hk with hk | hk
    · exact .inl (h1 k hk)
    · exact .inr hk
  · rcases hk with hk | hk
    · exact h3 k hk hX
    · have := hx.lt k hX; omega
  · rcases hk with hk | hk
    · exact h4 hk
    · have := hb.lt; omega
  · rcases hk with hk | hk
    · have := hr.lt k hk; omega
    · exact hk.2

/-- A crash. -/
theorem play_crash (h : PlayD w0 B s V N W) (hg : ∀ keep torn, Good V (s.crash keep torn).now) : ∃ d, W.cell? ⟨B, 0, none⟩ = some (dp d) ∧ ∀ (ka : Option Addr) (nk ck : Nat) (ks : List Bool) (torn : Int), Bls W (.slice ka nk ck) ks → ks.length = nk → nk ≤ 9223372036854775807 →
    Calls Tryz.prog 16 #[dp d, .slice ka nk ck, .int .i64 torn] W fun e W' => e = .returned (.tuple #[]) ∧ PlayD w0 B (s.crash ks torn) V N W' := by
  obtain ⟨d, T, c, hc, hcell, hd, hnext⟩ := h.disk
  refine ⟨d, hcell, fun ka nk ck ks torn hk hnk hnk2 => (crash_any hd hk hnk hnk2).mono ?_⟩
  rintro e W' ⟨rfl, hn⟩
  obtain ⟨kk, _, _, hmay⟩ := hg ks torn
  refine ⟨rfl, hnext 700 _ _ (Nat.le_refl _) ⟨hn.disk.tight ?_ (by decide), hn.only⟩⟩
  have h1 := hmay.few
  have e1 : (s.crash ks torn).sure.length = (s.crash ks torn).now.length := rfl
  have e2 : (s.crash ks torn).ops.length = 0 := rfl
  omega

/-- Opened anew. -/
theorem play_open (h : PlayD w0 B s V N W) (hoff : s.off = false) (hops : s.ops = []) (hg : Good V s.now) (ht : Tab w0) (he : Err w0) {ka : Option Addr} {nk ck : Nat} {ks : List Bool} {torn : Int} (hk : Bls w0 (.slice ka nk ck) ks) (hnk : ks.length = nk) (hnk2 : nk ≤ 9223372036854775807) :
    Calls Tryz.prog 17 #[.pointer (some ⟨B, 0, none⟩), .slice ka nk ck, .int .i64 torn] W fun e W' => e = .returned (.bool true) ∧ ∃ s' a b, (a = 0 ∨ V.may = V.first + a) ∧ a ≤ b ∧ b ≤ V.recs.length ∧ floorW V ≤ b ∧ PlayR w0 B s' (tookW V a b) N W' ∧ s'.ops = [] ∧ (Calm s → Calm s') := by
  obtain ⟨Z, hZ, hr⟩ := h.ex
  refine (open_any hr hoff hops hg h.num (ht.below (Nat.le_refl _) h.bel) (he.below h.bel) (not_own hZ (tab_pos ht)) (not_own hZ (err_lt he)) (fun W1 hW => hk.below (bel_only hZ h.bel hW)) hnk hnk2).mono ?_
  rintro e W' ⟨rfl, s', a, b, h1, h2, h3, h4, h5, h6, h7, h8, h9⟩
  exact ⟨rfl, s', a, b, h1, h2, h3, h4, ⟨⟨_, above_more hZ h.bel.size W', h5⟩, h6, bel_only hZ h.bel h8⟩, h7, h9⟩

/-- The fuse. -/
theorem playr_fuse (h : PlayR w0 B s V N W) (hN : N ≤ 98) : ∃ d, W.cell? ⟨B, 0, none⟩ = some (dp d) ∧ ∀ x : Int, x ≤ 9223372036854775807 →
    Calls Tryz.prog 15 #[dp d, .int .i64 x] W fun e W' => e = .returned (.tuple #[]) ∧ PlayR w0 B { s with fuse := max x (-1) } V N W' := by
  have _ := hN
  obtain ⟨d, T, c, hc, hcell, hd, hnext⟩ := h.disk
  refine ⟨d, hcell, fun x hx => (fuse_any hd x hx).mono ?_⟩
  rintro e W' ⟨rfl, hn⟩
  exact ⟨rfl, hnext c _ _ hc (h.idle.fuse _) hn⟩

theorem playd_fuse (h : PlayD w0 B s V N W) : ∃ d, W.cell? ⟨B, 0, none⟩ = some (dp d) ∧ ∀ x : Int, x ≤ 9223372036854775807 →
    Calls Tryz.prog 15 #[dp d, .int .i64 x] W fun e W' => e = .returned (.tuple #[]) ∧ PlayD w0 B { s with fuse := max x (-1) } V N W' := by
  obtain ⟨d, T, c, hc, hcell, hd, hnext⟩ := h.disk
  refine ⟨d, hcell, fun x hx => (fuse_any hd x hx).mono ?_⟩
  rintro e W' ⟨rfl, hn⟩
  exact ⟨rfl, hnext c _ _ hc hn⟩

/-- The room: what is used, and some more. -/
theorem playr_room (h : PlayR w0 B s V N W) : ∃ (d : Nat) (u : Nat), W.cell? ⟨B, 0, none⟩ = some (dp d) ∧ (∀ W1, Below W.heap.size W W1 → Calls Tryz.prog 23 #[dp d] W1 fun e W' => e = .returned (.int .i64 (u : Int)) ∧ W1 = W') ∧ ∀ (W1 : World) (x : Int), Below W.heap.size W W1 →
    Calls Tryz.prog 22 #[dp d, .int .i64 x] W1 fun e W' => e = .returned (.tuple #[]) ∧ PlayR w0 B { s with room := x } V N W' := by
  obtain ⟨d, T, c, hc, hcell, hd, -⟩ := h.disk
  refine ⟨d, tot s.now, hcell, fun W1 hW => ?_, fun W1 x hW => ?_⟩
  · obtain ⟨m1, m2, F1, F2, ws, G, hdk, -⟩ := (hd.below hW).ex
    exact used_any hdk
  · obtain ⟨d2, T2, c2, hc2, hcell2, hd2, hnext⟩ := (h.below hW).disk
    have hcl : W1.cell? ⟨B, 0, none⟩ = some (dp d) := by rw [hW.cell (World.block_lt_of_cell? W _ hcell)]; exact hcell
    obtain rfl : d2 = d := by
      rw [hcl] at hcell2
      simp at hcell2
      exact hcell2.symm
    refine (room_any hd2 x).mono ?_
    rintro e W' ⟨rfl, hn⟩
    exact ⟨rfl, hnext c2 _ _ hc2 (h.idle.room _) hn⟩

theorem playd_room (h : PlayD w0 B s V N W) : ∃ (d : Nat) (u : Nat), W.cell? ⟨B, 0, none⟩ = some (dp d) ∧ (∀ W1, Below W.heap.size W W1 → Calls Tryz.prog 23 #[dp d] W1 fun e W' => e = .returned (.int .i64 (u : Int)) ∧ W1 = W') ∧ ∀ (W1 : World) (x : Int), Below W.heap.size W W1 →
    Calls Tryz.prog 22 #[dp d, .int .i64 x] W1 fun e W' => e = .returned (.tuple #[]) ∧ PlayD w0 B { s with room := x } V N W' := by
  obtain ⟨d, T, c, hc, hcell, hd, -⟩ := h.disk
  refine ⟨d, tot s.now, hcell, fun W1 hW => ?_, fun W1 x hW => ?_⟩
  · obtain ⟨m1, m2, F1, F2, ws, G, hdk, -⟩ := (hd.below hW).ex
    exact used_any hdk
  · obtain ⟨d2, T2, c2, hc2, hcell2, hd2, hnext⟩ := (h.below hW).disk
    have hcl : W1.cell? ⟨B, 0, none⟩ = some (dp d) := by rw [hW.cell (World.block_lt_of_cell? W _ hcell)]; exact hcell
    obtain rfl : d2 = d := by
      rw [hcl] at hcell2
      simp at hcell2
      exact hcell2.symm
    refine (room_any hd2 x).mono ?_
    rintro e W' ⟨rfl, hn⟩
    exact ⟨rfl, hnext c2 _ _ hc2 hn⟩

/-- A run begins. -/
theorem play_begin (hb : Below w0.heap.size w0 W) (ht : Tab w0) (he : Err w0) : Calls Tryz.prog 13 #[] W fun e W' => ∃ B s, e = .returned (.pointer (some ⟨B, 0, none⟩)) ∧ PlayR w0 B s noW 0 W' ∧ Calm s ∧ Below w0.heap.size w0 W' := by
  refine (begin_any (ht.below (Nat.le_refl _) hb) (he.below hb)).mono ?_
  rintro e W' ⟨B, s, rfl, hr, hi, hc, hb2⟩
  have hb3 := hb.trans (hb2.mono hb.size)
  exact ⟨B, s, rfl, ⟨⟨_, fun k hk => Nat.le_trans hb.size hk.1, hr⟩, hi, hb3⟩, hc, hb3⟩

theorem eq_rnil (s t : Operand) (a : Addr) (W : World) : (do eqGuard .eql 25 s t (.pointer (some a)) (.pointer none); binOp .eql 25 (.pointer (some a)) (.pointer none) : Sem Value).run Tryz.prog W = .ok (.bool false) W := by
  simp [eqGuard, go_sem]
end
end Go.Proofs.YthaggdkfaglgaaaGreatDoor

/- What the laws' loops over a script look at; a log that is opened beside the run. -/
namespace Go.Proofs.YthaggdkfaglgaaaGreatDoor
set_option maxRecDepth 20000
open Go.RowKit Go.Maps DiskMath WalMath FrameMath Reg

theorem wrap64_le (x : Int) : wrap64 x ≤ 9223372036854775807 := by
  unfold wrap64
  omega

theorem tmod_five (x : Int) : -4 ≤ x.tmod 5 ∧ x.tmod 5 ≤ 4 := by
  have h1 := Int.tmod_lt_of_pos x (show (0 : Int) < 5 by omega)
  have h2 := Int.lt_tmod_of_pos x (show (0 : Int) < 5 by omega)
  omega

theorem five_kind (x : Int) : ∃ (k1 : Int) (k : Nat), x.tmod 5 = k1 ∧ (-4 ≤ k1 ∧ k1 ≤ 4) ∧ (k1 + 5).tmod 5 = (k : Int) ∧ k ≤ 4 := by
  have h := tmod_five x
  refine ⟨x.tmod 5, ((x.tmod 5 + 5).tmod 5).toNat, rfl, h, ?_, ?_⟩
  · have := Int.tmod_eq_emod_of_nonneg (a := x.tmod 5 + 5) (b := 5) (by omega)
    omega
  · have := Int.tmod_eq_emod_of_nonneg (a := x.tmod 5 + 5) (b := 5) (by omega)
    omega

theorem tmod_nine (x : Int) : -8 ≤ x.tmod 9 ∧ x.tmod 9 ≤ 8 := by
  have h1 := Int.tmod_lt_of_pos x (show (0 : Int) < 9 by omega)
  have h2 := Int.lt_tmod_of_pos x (show (0 : Int) < 9 by omega)
  omega

theorem nine_kind (x : Int) : ∃ (k1 : Int) (k : Nat), x.tmod 9 = k1 ∧ (-8 ≤ k1 ∧ k1 ≤ 8) ∧ (k1 + 9).tmod 9 = (k : Int) ∧ k ≤ 8 := by
  have h := tmod_nine x
  refine ⟨x.tmod 9, ((x.tmod 9 + 9).tmod 9).toNat, rfl, h, ?_, ?_⟩
  · have := Int.tmod_eq_emod_of_nonneg (a := x.tmod 9 + 9) (b := 9) (by omega)
    omega
  · have := Int.tmod_eq_emod_of_nonneg (a := x.tmod 9 + 9) (b := 9) (by omega)
    omega

theorem rem_five (t : TypeId) (a b : Operand) (x y : Int) (h : x.tmod 5 = y) (W : World) : (do eqGuard .rem t a b (.int .i64 x) (.int .i64 5); binOp .rem t (.int .i64 x) (.int .i64 5) : Sem Value).run Tryz.prog W = .ok (.int .i64 y) W := by
  simp [eqGuard, binOp, go_sem, Op.intDiv, h]

theorem add_five (t : TypeId) (a b : Operand) (x : Int) (hx : -1000 ≤ x ∧ x ≤ 1000) (W : World) : (do eqGuard .add t a b (.int .i64 x) (.int .i64 5); binOp .add t (.int .i64 x) (.int .i64 5) : Sem Value).run Tryz.prog W = .ok (.int .i64 (x + 5)) W := by
  have e : IntKind.i64.wrap (x + 5) = x + 5 := by
    rw [IntKind.wrap_i64]
    omega
  simp [eqGuard, binOp, go_sem, e]

theorem cell_spot {W : World} {p : Addr} {v : Value} (h : W.cell? p = some v) : p.spot = none := by
  unfold World.cell? at h
  split at h
  · split at h
    · cases h
    · rename_i hs
      simpa using hs
  · cases h

theorem load_op (W : World) (p : Addr) (v0 v1 v2 v3 : Value) (h0 : W.cell? p = some v0) (h1 : W.cell? ⟨p.block, p.off + 1, none⟩ = some v1) (h2 : W.cell? ⟨p.block, p.off + 2, none⟩ = some v2) (h3 : W.cell? ⟨p.block, p.off + 3, none⟩ = some v3) :
    (Instr.loadAt 30 (.pointer (some p))).run Tryz.prog W = .ok (.agg #[v0, v1, v2, v3]) W := by
  have hp := cell_spot h0
  obtain ⟨b, o, s⟩ := p
  simp only at hp
  subst hp
  refine loads_cells ⟨b, o, none⟩ 30 _ [v0, v1, v2, v3] Tryz.underlying30 rfl (by kernel_rfl) fun j u hj => ?_
  match j, hj with
  | 0, hj => cases hj; simpa [Addr.add] using h0
  | 1, hj => cases hj; simpa [Addr.add] using h1
  | 2, hj => cases hj; simpa [Addr.add] using h2
  | 3, hj => cases hj; simpa [Addr.add] using h3
  | j + 4, hj => simp at hj

section
variable {w0 W : World} {B : Nat} {s : St} {V : WS} {N : Nat}

theorem PlayR.sure (h : PlayR w0 B s V N W) (hops : s.ops = []) : s.sure = s.now := by
  obtain ⟨Z, hZ, hr⟩ := h.ex
  exact hr.disk.sure hops

theorem PlayR.good (h : PlayR w0 B s V N W) (keep : List Bool) (torn : Int) : Good V (s.crash keep torn).now := h.idle.crash keep torn

theorem playr_ref (h : PlayR w0 B s V N W) : ∃ x, W.cell? ⟨B, 2, none⟩ = some (.pointer (some ⟨x, 0, none⟩)) ∧ W.cell? ⟨x, 0, none⟩ = some (.int .u64 (V.first : Int)) ∧ ∀ W1, Below W.heap.size W W1 →
    Calls Tryz.prog 24 #[.pointer (some ⟨x, 0, none⟩)] W1 fun e W' => e = .returned (.int .u64 ((V.first + V.recs.length : Nat) : Int)) ∧ ∃ m, W' = W1.drewN m := by
  obtain ⟨Z, hZ, hr⟩ := h.ex
  obtain ⟨d, l, x, c, S, X, hc, hb, hp, hx, -⟩ := hr.ex
  obtain ⟨v, us, h1, _⟩ := hx.ex
  exact ⟨x, by rw [hb.cell]; rfl, by rw [h1.cell]; rfl, fun W1 hW => rNext_any (hx.below hW)⟩

/-- A second log is opened on the disk: the run's log isn't asked any more. -/
theorem play_reopen (h : PlayR w0 B s V N W) (hops : s.ops = []) (hfull : V.sure = V.recs.length) (ht : Tab w0) (he : Err w0) : ∃ d, W.cell? ⟨B, 0, none⟩ = some (dp d) ∧
    Calls Tryz.prog 25 #[dp d, nm qL] W fun e W' => ∃ v s', e = .returned v ∧ PlayD w0 B s' V N W' ∧ ∀ keep torn, Good V (s'.crash keep torn).now := by
  obtain ⟨Z, hZ, hr⟩ := h.ex
  obtain ⟨d, l, x, c, S, X, hc, hb, hp, hx, h1, h2, h3, h4, h5, h6⟩ := hr.ex
  obtain ⟨T, U, hd0, hl, k3, k4, k5⟩ := hp.ex
  have hrest := h.idle.rest
  have hd := hd0.tight (c' := 200) (by rw [hops]; have := hrest.sure.few; simp; omega) (by decide)
  have hov := h.idle.over
  have hfl := floor_idle hov
  have hnx : ∀ c' s' W', c' ≤ 700 → Next W T d c' s' W' → PlayD w0 B s' V N W' := fun c' s' W' hc' hn => by
    have hTZ : ∀ k, T k → Z k := fun k hk => h1 k (k3 k hk)
    obtain ⟨q1, q2⟩ := RunD.next (c := c) (s := s) hr.lt hb hx hTZ h2 (fun k hk => h3 k (k3 k hk)) (fun hk => h4 (k3 B hk)) h5 h6 hn hc'
    exact ⟨⟨_, above_more hZ h.bel.size W', q1⟩, h.idle.num, bel_only hZ h.bel q2⟩
  refine ⟨d, by rw [hb.cell]; rfl, (Open_any (q := qL) (lo := V.recs.length) qL_wnB hd (by decide) hrest.off hrest.now (ht.below (Nat.le_refl _) h.bel) (fun h0 => not_own hZ (tab_pos ht) (h1 0 (k3 0 h0))) (he.below h.bel) (fun h0 => not_own hZ (err_lt he) (h1 _ (k3 _ h0)))).mono ?_⟩
  rintro e W' ⟨j, l', c', hj, hread, hlast, hc', hcase⟩
  obtain ⟨hlo, hres⟩ := open_rest hrest.off hops (h.sure hops) hrest.now hj hread hlast
  have hjl : j = V.recs.length := by omega
  subst hjl
  rcases hcase with ⟨r0, rfl, hpn⟩ | ⟨r0, rfl, hn⟩
  · rcases hres with ⟨r6, _⟩ | ⟨-, hrs, hos⟩
    · rw [r0] at r6; exact absurd r6 (by decide)
    · obtain ⟨T2, U2, g1, g2, g3, g4, g5⟩ := hpn.pr.ex
      refine ⟨_, _, rfl, hnx c' _ _ (by omega) ⟨g1.wide g3 hpn.pr.lt, hpn.only⟩, fun keep torn => ?_⟩
      have hm := hrs.crash keep torn
      rw [List.take_length] at hm
      exact May.good (by rw [hfl, hfull]; exact hm)
  · rcases hres with ⟨-, -, hm⟩ | ⟨r6, _⟩
    · refine ⟨_, _, rfl, hnx c' _ _ (by omega) hn, fun keep torn => ?_⟩
      exact May.good (by rw [hfl, hfull]; exact hm keep torn)
    · exact absurd r6 r0
end
end Go.Proofs.YthaggdkfaglgaaaGreatDoor

/- More steps of a run: what WalPlays does between the calls. -/
namespace Go.Proofs.YthaggdkfaglgaaaGreatDoor
set_option maxRecDepth 20000
open Go.RowKit Go.Maps DiskMath WalMath FrameMath Reg

theorem no_bools (W : World) : Bls W (.slice none 0 0) [] := ⟨none, 0, rfl, fun i b hi => by simp at hi⟩

section
variable {w0 W W1 : World} {B : Nat} {s : St} {V : WS} {N : Nat}

theorem PlayD.ref (h : PlayD w0 B s V N W) : ∃ x, W.cell? ⟨B, 2, none⟩ = some (.pointer (some ⟨x, 0, none⟩)) ∧ W.cell? ⟨x, 3, none⟩ = some (.bool V.over) := by
  obtain ⟨Z, hZ, hr⟩ := h.ex
  obtain ⟨d, lv, x, c, T, X, hc, hb, hd, hx, -⟩ := hr.ex
  obtain ⟨v, us, h1, _⟩ := hx.ex
  exact ⟨x, by rw [hb.cell]; rfl, by rw [h1.cell]; rfl⟩

theorem playr_over (h : PlayR w0 B s V N W) : ∃ x, W.cell? ⟨B, 2, none⟩ = some (.pointer (some ⟨x, 0, none⟩)) ∧ W.cell? ⟨x, 3, none⟩ = some (.bool false) := by
  obtain ⟨x, h1, h2⟩ := h.d.ref
  rw [h.idle.over] at h2
  exact ⟨x, h1, h2⟩

theorem playg_over (h : PlayG w0 B s V N W) : ∃ x, W.cell? ⟨B, 2, none⟩ = some (.pointer (some ⟨x, 0, none⟩)) ∧ W.cell? ⟨x, 3, none⟩ = some (.bool true) := by
  obtain ⟨x, h1, h2⟩ := h.d.ref
  rw [h.gone.over] at h2
  exact ⟨x, h1, h2⟩

theorem playg_fuse (h : PlayG w0 B s V N W) : ∃ d, W.cell? ⟨B, 0, none⟩ = some (dp d) ∧ ∀ x : Int, x ≤ 9223372036854775807 →
    Calls Tryz.prog 15 #[dp d, .int .i64 x] W fun e W' => e = .returned (.tuple #[]) ∧ PlayG w0 B { s with fuse := max x (-1) } V N W' := by
  obtain ⟨d, hcell, hf⟩ := playd_fuse h.d
  exact ⟨d, hcell, fun x hx => (hf x hx).mono fun e W' g => ⟨g.1, g.2, h.gone.fuse _⟩⟩

theorem playg_room (h : PlayG w0 B s V N W) : ∃ (d : Nat) (u : Nat), W.cell? ⟨B, 0, none⟩ = some (dp d) ∧ (∀ W1, Below W.heap.size W W1 → Calls Tryz.prog 23 #[dp d] W1 fun e W' => e = .returned (.int .i64 (u : Int)) ∧ W1 = W') ∧ ∀ (W1 : World) (x : Int), Below W.heap.size W W1 →
    Calls Tryz.prog 22 #[dp d, .int .i64 x] W1 fun e W' => e = .returned (.tuple #[]) ∧ PlayG w0 B { s with room := x } V N W' := by
  obtain ⟨d, u, hcell, hu, hf⟩ := playd_room h.d
  exact ⟨d, u, hcell, hu, fun W1 x hW => (hf W1 x hW).mono fun e W' g => ⟨g.1, g.2, h.gone.room _⟩⟩

theorem playd_down (h : PlayD w0 B s V N W) : ∃ d, W.cell? ⟨B, 0, none⟩ = some (dp d) ∧ Calls Tryz.prog 18 #[dp d] W fun e W' => e = .returned (.bool s.off) ∧ W = W' := by
  obtain ⟨d, T, c, hc, hcell, hd, -⟩ := h.disk
  obtain ⟨m1, m2, F1, F2, ws, G, hdk, -⟩ := hd.ex
  exact ⟨d, hcell, down_any hdk⟩

/-- A crash; what was made behind the run's last step stays. -/
theorem play_crash_box (h : PlayD w0 B s V N W) (hbel : Below W.heap.size W W1) (hg : ∀ keep torn, Good V (s.crash keep torn).now) : ∃ d, W1.cell? ⟨B, 0, none⟩ = some (dp d) ∧ ∀ (W2 : World) (ka : Option Addr) (nk ck : Nat) (ks : List Bool) (torn : Int), Below W1.heap.size W1 W2 → Bls W2 (.slice ka nk ck) ks → ks.length = nk → nk ≤ 9223372036854775807 →
    Calls Tryz.prog 16 #[dp d, .slice ka nk ck, .int .i64 torn] W2 fun e W' => e = .returned (.tuple #[]) ∧ PlayD w0 B (s.crash ks torn) V N W' ∧ ∀ k, W.heap.size ≤ k → k < W1.heap.size → W'.heap[k]? = W1.heap[k]? := by
  obtain ⟨Z, hZ, hr⟩ := h.ex
  have hr1 := hr.below hbel
  obtain ⟨d, lv, x, c, T, X, hc, hb, hd, hx, h1, h2, h3, h4, h5, h6⟩ := hr1.ex
  refine ⟨d, by rw [hb.cell]; rfl, fun W2 ka nk ck ks torn hW2 hk hnk hnk2 => (crash_any (hd.below hW2) hk hnk hnk2).mono ?_⟩
  rintro e W' ⟨rfl, hn⟩
  obtain ⟨kk, _, _, hmay⟩ := hg ks torn
  have hn2 : Next W2 T d 700 (s.crash ks torn) W' := ⟨hn.disk.tight (by
    have h1 := hmay.few
    have e1 : (s.crash ks torn).sure.length = (s.crash ks torn).now.length := rfl
    have e2 : (s.crash ks torn).ops.length = 0 := rfl
    omega) (by decide), hn.only⟩
  have hlt2 : ∀ k, Z k → k < W2.heap.size := fun k hk => by have := hr1.lt k hk; have := hW2.size; omega
  obtain ⟨q1, q2⟩ := RunD.next (c := c) (s := s) hlt2 (hb.keep hW2) (hx.below hW2) h1 h2 h3 h4 h5 h6 hn2 (Nat.le_refl _)
  have hbel1 := h.bel.trans (hbel.mono h.bel.size)
  have hbel2 := hbel1.trans (hW2.mono hbel1.size)
  refine ⟨rfl, ⟨⟨_, above_more hZ hbel2.size W', q1⟩, h.num, bel_only hZ hbel2 q2⟩, fun k hk hk1 => ?_⟩
  have hnz : ¬ Z k := fun hz => by have := hr.lt k hz; omega
  rw [q2.block k (by have := hW2.size; omega) hnz, hW2.block k hk1]

theorem at_played {W' : World} {Z G : Nat → Prop} {d l x c f : Nat} {R : List (List UInt8)} {over : Bool} {V' : WS} {s' : St} (h : At W Z B d l x c s' f R over V' G W') (hc : c ≤ 700) (hZ : ∀ k, Z k → w0.heap.size ≤ k) (hbel : Below w0.heap.size w0 W) (hnum : V'.first + V'.recs.length ≤ N) : PlayD w0 B s' V' N W' :=
  ⟨⟨_, above_more hZ hbel.size W', (h.run hc).disk⟩, hnum, bel_only hZ hbel h.only⟩

/-- All is made sure; what comes behind it. -/
theorem playr_sync (h : PlayR w0 B s V N W) : ∃ l x, W.cell? ⟨B, 1, none⟩ = some (.pointer (some ⟨l, 0, none⟩)) ∧ Calls Tryz.prog 19 #[.pointer (some ⟨l, 0, none⟩)] W fun e W' =>
    (e = .returned (.int .i64 0) ∧ W'.cell? ⟨B, 2, none⟩ = some (.pointer (some ⟨x, 0, none⟩)) ∧ Calls Tryz.prog 20 #[.pointer (some ⟨x, 0, none⟩)] W' fun e W'' => e = .returned (.tuple #[]) ∧ ∃ s', PlayD w0 B s' (tookAll V) N W'' ∧ s'.off = false ∧ s'.ops = [] ∧ Good (tookAll V) s'.now) ∨
    (e = .returned (.int .i64 6) ∧ ∀ W1, Below W'.heap.size W' W1 → W1.cell? ⟨B, 2, none⟩ = some (.pointer (some ⟨x, 0, none⟩)) ∧ W1.cell? ⟨x, 2, none⟩ = some (.int .i64 (V.sure : Int)) ∧ W1.cell? ⟨x, 0, none⟩ = some (.int .u64 (V.first : Int)) ∧
      Calls Tryz.prog 21 #[.pointer (some ⟨x, 0, none⟩), .int .i64 (V.sure : Int), .int .u64 (V.first : Int)] W1 fun e W'' => e = .returned (.tuple #[]) ∧ ∃ s', PlayG w0 B s' (lostW V V.sure V.first) N W'') := by
  obtain ⟨Z, hZ, hr⟩ := h.ex
  obtain ⟨d, l, x, c, hc, hat⟩ := at_of_run hr
  have hnum := h.idle.num
  refine ⟨l, x, by rw [hat.blkB.cell]; rfl, (at_sync hat).mono ?_⟩
  rintro e W' ⟨rfl, c', hc', ha, -⟩
  rcases idle_sync h.idle with ⟨h6, hg⟩ | ⟨h0, hid⟩
  · right
    rw [h6] at ha
    rw [h6]
    refine ⟨rfl, fun W1 hW1 => ?_⟩
    have ha1 := (ha.below hW1).1
    obtain ⟨v, hv⟩ := ha1.blkX
    refine ⟨by rw [ha1.blkB.cell]; rfl, by rw [hv.cell]; rfl, by rw [hv.cell]; rfl, (at_lost ha1 V.sure V.first hat.wok.sure (by have := hat.wok.lim; omega)).mono ?_⟩
    rintro e W'' ⟨rfl, ha2, -⟩
    exact ⟨rfl, _, at_played ha2 (by omega) hZ h.bel hnum, hg⟩
  · left
    have hops : s.sync.2.ops = [] := by
      rcases rest_sync h.idle.rest with ⟨g6, -⟩ | ⟨-, -, g⟩
      · rw [h0] at g6; exact absurd g6 (by decide)
      · exact g
    rw [h0] at ha
    rw [h0]
    refine ⟨rfl, by rw [ha.blkB.cell]; rfl, (at_took ha).mono ?_⟩
    rintro e W'' ⟨rfl, ha2, -⟩
    refine ⟨rfl, _, at_played ha2 (by omega) hZ h.bel hnum, hid.rest.off, hops, May.good ?_⟩
    rw [floor_idle hid.over]
    exact hid.rest.now
end
end Go.Proofs.YthaggdkfaglgaaaGreatDoor

