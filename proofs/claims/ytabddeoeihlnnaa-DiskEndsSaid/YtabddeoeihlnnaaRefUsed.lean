/- The reference's Used. -/
import Derived.Test.YtabddeoeihlnnaaRefKit
namespace Go.Proofs.Ytabddeoeihlnnaa
open Go.RowKit Go.Maps DiskMath

theorem tot_app (a b : Fs) : tot (a ++ b) = tot a + tot b := by simp [tot]

theorem tot_take1 {G : Gf} {i : Nat} {p : Nm × (Value × List UInt8)} (h : G[i]? = some p) : tot (pr (G.take (i + 1))) = tot (pr (G.take i)) + p.2.2.length ∧ tot (pr (G.take (i + 1))) ≤ tot (pr G) := by
  have e : pr (G.take (i + 1)) = pr (G.take i) ++ [(p.1, p.2.2)] := by rw [List.take_add_one, h]; simp [pr]
  have e2 : pr G = pr (G.take (i + 1)) ++ pr (G.drop (i + 1)) := by unfold pr; rw [← List.map_append, List.take_append_drop]
  refine ⟨by rw [e, tot_app]; simp [tot], ?_⟩
  rw [e2, tot_app]
  omega

set_option maxHeartbeats 1000000 in
theorem usedr_any {w : World} {v : Value} {G : Gf} (h : Fls w v G) (hl : G.length ≤ 100000) (hb : tot (pr G) ≤ 1099511627776) : Calls Try.prog 50 #[v] w fun e w' => e = .returned (.int .i64 (tot (pr G) : Int)) ∧ w = w' := by
  obtain ⟨va, vc, hv⟩ := h.slice
  subst hv
  obtain ⟨L, hL⟩ : ∃ L, L = G.length := ⟨_, rfl⟩
  obtain ⟨S, hS⟩ : ∃ S, S = tot (pr G) := ⟨_, rfl⟩
  have HF := Lib.hid h
  have HL := Lib.hid hL
  have HS := Lib.hid hS
  rw [← hL] at HF hl ⊢
  rw [← hS] at hb ⊢
  clear h hL hS
  go_enter Try.func50, Try.ntmps50
  go_wp2
  go_loop [3, 4] (fun s3 s4 => ∃ i t : Nat, i ≤ L ∧ s4 = .int .i64 i ∧ s3 = .int .i64 t ∧ Hid (t = tot (pr (G.take i)))) (fun _ s4 => L - (intOf s4).toNat)
  case atStart => exact ⟨0, 0, Nat.zero_le _, rfl, rfl, Lib.hid (by simp [pr, tot])⟩
  case round =>
    obtain ⟨i, t, hi, rfl, rfl, HT⟩ := hrel
    by_cases hlt : i < L
    · have i0 : (0 : Int) ≤ (i : Int) := Int.natCast_nonneg _
      have i1 : (i : Int) < (L : Int) := by omega
      obtain ⟨p, hp⟩ : ∃ p, G[i]? = some p := ⟨G[i]'(by have := HL.out; omega), List.getElem?_eq_getElem _⟩
      have hf := HF.out
      rw [HL.out] at hf
      obtain ⟨g, cap, e, -, c0, c1⟩ := hf.cells i p hp
      simp at e
      obtain ⟨rfl, rfl⟩ := e
      have hidx : ∀ W, (Instr.indexAt 62 (.slice (some ⟨g, 0, none⟩) L vc) (.int .i64 (i : Int))).run Try.prog W = .ok (.pointer (some ⟨g, i * 2, none⟩)) W := fun W => files_index W g L vc i hlt
      obtain ⟨j, hj⟩ : ∃ j, j = i * 2 := ⟨_, rfl⟩
      rw [← hj] at c0 c1 hidx
      obtain ⟨ta, tc, hsl⟩ := slice_of_row (hf.text p (List.mem_of_getElem? hp))
      rw [hsl] at c1
      obtain ⟨k, hk⟩ : ∃ k, k = p.2.2.length := ⟨_, rfl⟩
      obtain ⟨h1, h2⟩ := tot_take1 hp
      rw [← HS.out] at h2
      rw [← hk] at h1 c1
      have hs : t + k ≤ S := by have := HT.out; omega
      have HN : Hid (t + k = tot (pr (G.take (i + 1)))) := Lib.hid (by have := HT.out; omega)
      clear hf hj c0 hp hsl hk h1 h2
      go_wp2
      refine ⟨⟨i + 1, t + k, by omega, by go_num, by go_num, HN⟩, by simp [intOf]; omega⟩
    · obtain rfl : i = L := by omega
      have e : t = S := by
        have h := HT.out
        rw [List.take_of_length_le (by have := HL.out; omega)] at h
        rw [h, HS.out]
      subst e
      go_wp2
      go_ret
      exact ⟨rfl, rfl⟩

end Go.Proofs.Ytabddeoeihlnnaa
