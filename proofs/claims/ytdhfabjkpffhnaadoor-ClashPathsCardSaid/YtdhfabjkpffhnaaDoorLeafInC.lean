/- Lists of hashes, and ranges, that came in. -/
import Derived.Test.YtdhfabjkpffhnaaDoorGCM
import Derived.Deep.Slices
import Derived.Lib.LaidTab
import Derived.OpenShut
import Derived.SizedLaws
namespace Go.Proofs.YtdhfabjkpffhnaaDoor
set_option maxRecDepth 20000
open Go.ChangeShapes Go.WideShapes Go.ChangeAt Go.RowKit Go.Deep ShaMath LeafMath

theorem hash_open {H : Type} {enc : TypeId × Value → H} {w : World} {base : Nat} {sp : Nat → Bool} {held : Bool} {fuel : Nat} {cs : List Value} {x : DataW H × List MemPlace}
    (h : DataW.trod enc Tryd.prog w base sp held fuel 24 cs = some x) : ∃ l : List UInt8, cs = hcs l ∧ l.length = 32 := by
  obtain ⟨d, p⟩ := x
  have hct : Tryd.prog.cellsOf 24 = 32 := by kernel_rfl
  have hce : Tryd.prog.cellsOf 5 = 1 := by kernel_rfl
  cases fuel with
  | zero => simp [DataW.trod] at h
  | succ fuel =>
    simp only [DataW.trod, Tryd.underlying24, hce, hct, Nat.mul_one] at h
    split at h
    · rename_i hl
      obtain ⟨xs, hm, hx⟩ := Option.map_eq_some_iff.1 h
      have hcell : ∀ i, i < 32 → ∃ c : UInt8, cs[i]? = some (bv c) := fun i hi => by
        obtain ⟨b, hb, hf⟩ := Lib.mapM_at hm i i (by simp [hi])
        obtain ⟨z, hc, -, hwf⟩ := DataW.trod_int Tryd.underlying5 hf
        have h1 : cs[i]? = some (.int .u8 z) := by
          have e := congrArg List.head? hc
          simp only [List.head?_take, List.head?_drop] at e
          simpa using e
        obtain ⟨l, hlz⟩ := bytes_of [z] (by simpa using hwf)
        match l, hlz with
        | [c], hlz =>
          simp at hlz
          exact ⟨c, by rw [h1, hlz]; rfl⟩
      refine ⟨(List.range 32).map fun i => if hi : i < 32 then Classical.choose (hcell i hi) else 0, ?_, by simp⟩
      apply List.ext_getElem?
      intro i
      by_cases hi : i < 32
      · rw [Classical.choose_spec (hcell i hi)]
        simp [hcs, hi]
      · rw [List.getElem?_eq_none (by omega), List.getElem?_eq_none (by simp [hcs]; omega)]
    · cases h

/-- A list of hashes that came in. -/
theorem hss_open {H : Type} {enc : TypeId × Value → H} {W : World} {a : Option Addr} {len cap fuel : Nat} {d : DataW H} {p : List MemPlace}
    (hf : DataW.trod enc Tryd.prog W 0 (fun _ => true) true fuel 30 [Value.slice a len cap] = some (d, p)) :
    ∃ hs : List Hs, hs.length = len ∧ Hss W (.slice a len cap) hs ∧ ∀ {ts : List TypeId} {ds : List (DataW H)} {j : Nat}, (DataW.weightsEach Tryd.prog ts ds).all (· ≤ reachBytes) = true → ts[j]? = some 30 → ds[j]? = some d → len ≤ 4398046510976 := by
  rcases open_slice Tryd.underlying30 hf with ⟨hcs, _⟩ | ⟨ad, ln, c, m, n, D, Pl, hcs, _, hl, hm, hmm, hx, hel⟩
  · simp at hcs
    obtain ⟨rfl, rfl, rfl⟩ := hcs
    exact ⟨[], rfl, Hss.none W, fun _ _ _ => by omega⟩
  · simp at hcs
    obtain ⟨rfl, rfl, rfl⟩ := hcs
    have hC : Tryd.prog.cellsOf 24 = 32 := by kernel_rfl
    simp only [if_true] at hmm
    have hall : ∀ i, ∃ l : Hs, i < len → l.length = 32 ∧ ∀ j u, (hcs l)[j]? = some u → W.cell? ((ad.add (i * 32)).add j) = some u := fun i => by
      by_cases hi : i < len
      · obtain ⟨cs', h1, h2⟩ := hel i (by omega)
        rw [hC] at h1
        obtain ⟨-, hlen, hcell⟩ := World.cells?_some h1
        obtain ⟨l, rfl, h32⟩ := hash_open h2
        refine ⟨l, fun _ => ⟨h32, fun j u hj => ?_⟩⟩
        have hj32 : j < 32 := by
          have := (List.getElem?_eq_some_iff.1 hj).1
          rw [hcs_len h32] at this
          exact this
        have hz := hcell j hj32
        rw [hj] at hz
        rw [← hz]
      · exact ⟨[], fun h => absurd h hi⟩
    have hsp : ∀ i, i < len → _ := fun i hi => Classical.choose_spec (hall i) hi
    have hget : ∀ (i : Nat) (x : Hs), ((List.range len).map fun i => Classical.choose (hall i))[i]? = some x → i < len ∧ x.length = 32 ∧ ∀ j u, (hcs x)[j]? = some u → W.cell? ((ad.add (i * 32)).add j) = some u := fun i x hi => by
      rw [List.getElem?_map] at hi
      obtain ⟨j, hj, rfl⟩ := Option.map_eq_some_iff.1 hi
      obtain ⟨hj1, hj2⟩ := List.getElem?_eq_some_iff.1 hj
      simp at hj1 hj2
      subst hj2
      exact ⟨hj1, hsp i hj1⟩
    have h32 : All32 ((List.range len).map fun i => Classical.choose (hall i)) := fun x hx => by
      obtain ⟨i, hi⟩ := List.mem_iff_getElem?.1 hx
      exact (hget i x hi).2.1
    refine ⟨(List.range len).map fun i => Classical.choose (hall i), by simp, ⟨h32, .inr ⟨ad, cap, by simp, by simp; omega, fun j u hj => ?_⟩⟩, fun h1 h2 h3 => ?_⟩
    · have hjl : j < len * 32 := by
        have := (List.getElem?_eq_some_iff.1 hj).1
        rw [hcells_len h32] at this
        simpa using this
      have hi : j / 32 < ((List.range len).map fun i => Classical.choose (hall i)).length := by simp; omega
      obtain ⟨hx1, hx2, hx3⟩ := hget (j / 32) _ (List.getElem?_eq_getElem hi)
      have hd := hcells_drop h32 (j / 32)
      unfold hcells at hd hj
      rw [List.drop_eq_getElem_cons hi, List.flatMap_cons] at hd
      have h4 : (hcs ((List.range len).map fun i => Classical.choose (hall i))[j / 32])[j % 32]? = some u := by
        have h5 : ((((List.range len).map fun i => Classical.choose (hall i)).flatMap hcs).drop (j / 32 * 32))[j % 32]? = some u := by
          rw [List.getElem?_drop, show j / 32 * 32 + j % 32 = j by omega]
          exact hj
        rw [hd, List.getElem?_append_left (by rw [hcs_len hx2]; omega)] at h5
        exact h5
      have h6 := hx3 _ _ h4
      rwa [add_add, show j / 32 * 32 + j % 32 = j by omega] at h6
    · have hd : d = _ := (Prod.mk.inj hx).1
      rw [hd] at h3
      have hs2 := sized_slice h1 h2 h3 Tryd.underlying30
      have hb : Tryd.prog.bytesOf 24 = 32 := by kernel_rfl
      rw [hb] at hs2
      simp only [List.length_map, List.length_range, reachBytes] at hs2
      omega

end Go.Proofs.YtdhfabjkpffhnaaDoor

