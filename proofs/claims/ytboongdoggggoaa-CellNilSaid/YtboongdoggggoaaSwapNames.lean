/- An owner's name, the names of its files. -/
import Derived.Test.YtboongdoggggoaaDiskLone
import Derived.Test.YtboongdoggggoaaTails
import Derived.Test.YtboongdoggggoaaSwapMath
namespace Go.Proofs.Ytboongdoggggoaa
set_option maxRecDepth 20000
open Go.RowKit Go.Maps DiskMath SwapMath Reg

set_option maxHeartbeats 1000000 in
theorem ownName_any (n : Nm) (w : World) (hn : n.length ≤ 9223372036854775807) : Calls Try.prog 106 #[nm n] w fun e w' => e = .returned (.bool (wnB n)) ∧ w = w' := by
  obtain ⟨S, hS⟩ : ∃ S : ByteArray, nm n = .string S := ⟨_, rfl⟩
  have hsz : S.size = n.length := by
    unfold nm at hS
    cases hS
    show n.toArray.size = _
    simp
  have hget : ∀ (i : Nat) (h : i < S.size) (h' : i < n.length), (S[i]'h).toNat = (n[i]'h').toNat := fun i h h' => by
    unfold nm at hS
    cases hS
    rfl
  rw [hS]
  by_cases h1 : n.length < 1
  · have hr : wnB n = false := by unfold wnB; simp; omega
    have b1 : decide ((n.length : Int) < 1) = true := by simp; omega
    rw [hr]
    go_enter Try.func106, Try.ntmps106
    go_wp2
    all_goals first | (go_ret; exact ⟨rfl, rfl⟩) | skip
  by_cases h2 : 4 < n.length
  · have hr : wnB n = false := by unfold wnB; simp; omega
    have b1 : decide ((n.length : Int) < 1) = false := by simp; omega
    have b2 : decide (4 < (n.length : Int)) = true := by simp; omega
    rw [hr]
    go_enter Try.func106, Try.ntmps106
    go_wp2
    all_goals first | (go_ret; exact ⟨rfl, rfl⟩) | skip
  have b1 : decide ((n.length : Int) < 1) = false := by simp; omega
  have b2 : decide (4 < (n.length : Int)) = false := by simp; omega
  obtain ⟨L, hL⟩ : ∃ L, L = n.length := ⟨_, rfl⟩
  rw [← hL] at b1 b2 hsz h1 h2
  have HL := Lib.hid hL
  clear hL hn
  go_enter Try.func106, Try.ntmps106
  go_wp2
  go_loop [14] (fun s14 => ∃ i : Nat, i ≤ L ∧ s14 = .int .i64 i ∧ (n.take i).all lowC = true) (fun s14 => L - (intOf s14).toNat)
  case atStart => exact ⟨0, Nat.zero_le _, rfl, rfl⟩
  case round =>
    obtain ⟨i, hi, rfl, hall⟩ := hrel
    have HAll := Lib.hid hall
    clear hall b1 b2
    by_cases hlt : i < L
    · have i0 : (0 : Int) ≤ (i : Int) := Int.natCast_nonneg _
      have i1 : (i : Int) < (L : Int) := by omega
      have hin : i < n.length := by have := HL.out; omega
      have hbad : lowC n[i] = false → wnB n = false := fun h => by
        unfold wnB
        rw [Bool.and_eq_false_iff]
        right
        rw [List.all_eq_false]
        exact ⟨n[i], List.getElem_mem _, by rw [h]; simp⟩
      have hgood : lowC n[i] = true → (n.take (i + 1)).all lowC = true := fun h => by
        rw [List.take_succ_eq_append_getElem hin, List.all_append, HAll.out]
        simp [h]
      have HBad := Lib.hid hbad
      have HGood := Lib.hid hgood
      have HG := Lib.hid (hget i (by omega) hin)
      clear hbad hgood
      go_wp2
      all_goals try
        (refine ⟨⟨i + 1, by omega, by go_num, HGood.out ?_⟩, by simp [intOf]; omega⟩
         have h := HG.out
         unfold lowC
         simp only [Bool.and_eq_true, decide_eq_true_eq] at *
         omega)
      all_goals
        refine bodyPost_ret (v := .bool false) (by simp [results, Try.results106, go_sem]) rfl ⟨?_, rfl⟩
        have h := HG.out
        rw [HBad.out (by unfold lowC; simp only [Bool.and_eq_false_iff, decide_eq_false_iff_not] at *; omega)]
    · obtain rfl : i = L := by omega
      have hr : wnB n = true := by
        have h := HAll.out
        rw [List.take_of_length_le (by have := HL.out; omega)] at h
        have := HL.out
        unfold wnB
        rw [h]
        simp
        omega
      have HR := Lib.hid hr
      clear hr hget
      go_wp2
      exact bodyPost_ret (v := .bool true) (by simp [results, Try.results106, go_sem]) rfl ⟨by rw [HR.out], rfl⟩

theorem rNamed_any (n : Nm) (w : World) (hn : n.length ≤ 9223372036854775807) : Calls Try.prog 42 #[nm n] w fun e w' => e = .returned (.bool (wnB n)) ∧ w = w' := by
  obtain ⟨S, hS⟩ : ∃ S : ByteArray, nm n = .string S := ⟨_, rfl⟩
  have hsz : S.size = n.length := by
    unfold nm at hS
    cases hS
    show n.toArray.size = _
    simp
  have hget : ∀ (i : Nat) (h : i < S.size) (h' : i < n.length), (S[i]'h).toNat = (n[i]'h').toNat := fun i h h' => by
    unfold nm at hS
    cases hS
    rfl
  rw [hS]
  obtain ⟨L, hL⟩ : ∃ L, L = n.length := ⟨_, rfl⟩
  rw [← hL] at hsz hn
  have HL := Lib.hid hL
  clear hL
  go_enter Try.func42, Try.ntmps42
  go_wp2
  go_loop [3] (fun s3 => ∃ i : Nat, i ≤ L ∧ s3 = .int .i64 i ∧ (n.take i).all lowC = true) (fun s3 => L - (intOf s3).toNat)
  case atStart => exact ⟨0, Nat.zero_le _, rfl, rfl⟩
  case round =>
    obtain ⟨i, hi, rfl, hall⟩ := hrel
    have HAll := Lib.hid hall
    clear hall
    by_cases hlt : i < L
    · have i0 : (0 : Int) ≤ (i : Int) := Int.natCast_nonneg _
      have i1 : (i : Int) < (L : Int) := by omega
      have hin : i < n.length := by have := HL.out; omega
      have hbad : lowC n[i] = false → wnB n = false := fun h => by
        unfold wnB
        rw [Bool.and_eq_false_iff]
        right
        rw [List.all_eq_false]
        exact ⟨n[i], List.getElem_mem _, by rw [h]; simp⟩
      have hgood : lowC n[i] = true → (n.take (i + 1)).all lowC = true := fun h => by
        rw [List.take_succ_eq_append_getElem hin, List.all_append, HAll.out]
        simp [h]
      have HBad := Lib.hid hbad
      have HGood := Lib.hid hgood
      have HG := Lib.hid (hget i (by omega) hin)
      clear hbad hgood
      go_wp2
      all_goals try
        (refine ⟨⟨i + 1, by omega, by go_num, HGood.out ?_⟩, by simp [intOf]; omega⟩
         have h := HG.out
         unfold lowC
         simp only [Bool.and_eq_true, decide_eq_true_eq] at *
         omega)
      all_goals
        refine bodyPost_ret (v := .bool false) (by simp [results, Try.results42, go_sem]) rfl ⟨?_, rfl⟩
        have h := HG.out
        rw [HBad.out (by unfold lowC; simp only [Bool.and_eq_false_iff, decide_eq_false_iff_not] at *; omega)]
    · obtain rfl : i = L := by omega
      have hall := HAll.out
      rw [List.take_of_length_le (by have := HL.out; omega)] at hall
      have hr : wnB n = (decide (1 ≤ (i : Int)) && decide ((i : Int) ≤ 4)) := by
        have := HL.out
        unfold wnB
        rw [hall, Bool.and_true, ← HL.out]
        congr 1
        · simp only [decide_eq_decide]; omega
        · simp only [decide_eq_decide]; omega
      have HR := Lib.hid hr
      clear hr hget hall
      by_cases a1 : 1 ≤ (i : Int)
      · by_cases a2 : (i : Int) ≤ 4
        · have b1 : decide (1 ≤ (i : Int)) = true := by simpa using a1
          have b2 : decide ((i : Int) ≤ 4) = true := by simpa using a2
          rw [b1, b2] at HR
          go_wp2
          exact bodyPost_ret (v := .bool true) (by simp [results, Try.results42, go_sem]) rfl ⟨by rw [HR.out]; rfl, rfl⟩
        · have b1 : decide (1 ≤ (i : Int)) = true := by simpa using a1
          have b2 : decide ((i : Int) ≤ 4) = false := by simpa using a2
          rw [b1, b2] at HR
          go_wp2
          exact bodyPost_ret (v := .bool false) (by simp [results, Try.results42, go_sem]) rfl ⟨by rw [HR.out]; rfl, rfl⟩
      · have b1 : decide (1 ≤ (i : Int)) = false := by simpa using a1
        rw [b1] at HR
        go_wp2
        exact bodyPost_ret (v := .bool false) (by simp [results, Try.results42, go_sem]) rfl ⟨by rw [HR.out]; rfl, rfl⟩

theorem nm_cat (a b : Nm) : (⟨a.toArray⟩ : ByteArray) ++ (⟨b.toArray⟩ : ByteArray) = ⟨(a ++ b).toArray⟩ := by
  rw [ByteArray.ext_iff]
  simp

theorem file_any (q r : Nm) (hq : q.length ≤ 1000) (hr : r.length ≤ 1000) (w : World) : Calls Try.prog 127 #[nm q, nm r] w fun e w' => e = .returned (nm (q ++ [46] ++ r)) ∧ w' = w := by
  obtain ⟨N, hN⟩ : ∃ N : ByteArray, N = ⟨q.toArray⟩ := ⟨_, rfl⟩
  obtain ⟨M, hM⟩ : ∃ M : ByteArray, M = ⟨r.toArray⟩ := ⟨_, rfl⟩
  have e1 : N ++ ⟨#[46]⟩ ++ M = ⟨(q ++ [46] ++ r).toArray⟩ := by rw [hN, hM, ← nm_cat, ← nm_cat]
  have H1 := Lib.hid e1
  have hs : N.size = q.length := by rw [hN]; rfl
  have hs2 : M.size = r.length := by rw [hM]; rfl
  have hs3 : (N ++ ⟨#[46]⟩).size = N.size + 1 := by rw [ByteArray.size_append]; rfl
  have hlt : ¬ 9223372036854775807 < N.size + 1 := by omega
  have hlt2 : ¬ 9223372036854775807 < (N ++ ⟨#[46]⟩).size + M.size := by omega
  have hlt3 : ¬ 9223372036854775807 < N.size + 1 + M.size := by omega
  unfold nm
  rw [← hN, ← hM]
  clear e1 hN hM hs hs2 hs3 hq hr
  go_enter Try.func127, Try.ntmps127
  go_wp2
  go_ret
  exact ⟨by rw [← H1.out]; rfl, rfl⟩

/-- The file of a text in memory. -/
def fC (d : Nat) (q : Nm) (v : Value) (t o : Bool) : Array Value := #[dp d, nm q, v, .bool t, .bool o]
def IsFile (w : World) (x d : Nat) (q : Nm) (v : Value) (t o : Bool) : Prop := Blk w x 159 (fC d q v t o)

theorem IsFile.same {w w' : World} {x d : Nat} {q : Nm} {v : Value} {t o : Bool} (hc : IsFile w x d q v t o) (hs : w'.heap[x]? = w.heap[x]?) : IsFile w' x d q v t o := by
  unfold IsFile Blk at hc ⊢
  rw [hs]
  exact hc
theorem IsFile.lt {w : World} {x d : Nat} {q : Nm} {v : Value} {t o : Bool} (hc : IsFile w x d q v t o) : x < w.heap.size := Blk.lt hc
theorem IsFile.below {w w' : World} {x d : Nat} {q : Nm} {v : Value} {t o : Bool} (hc : IsFile w x d q v t o) (hb : Below w.heap.size w w') : IsFile w' x d q v t o := Blk.keep hc hb

theorem place_cell {w : World} {x : Nat} {q : Nm} (c1 : w.cell? ⟨x, 1, none⟩ = some (nm q)) (hq : q.length ≤ 1000) : Calls Try.prog 108 #[.pointer (some ⟨x, 0, none⟩)] w fun e w' => e = .returned (nm (nowN q)) ∧ w' = w := by
  have HF := Lib.hid (file_any q [110, 111, 119] hq (by decide) w)
  have e1 : q ++ [46] ++ [110, 111, 119] = nowN q := by simp [nowN]
  rw [e1] at HF
  have e2 : nm ([110, 111, 119] : Nm) = .string ⟨#[110, 111, 119]⟩ := rfl
  rw [e2] at HF
  obtain ⟨Q, hQ⟩ : ∃ Q, nm q = .string Q := ⟨_, rfl⟩
  rw [hQ] at c1 HF
  clear e1 e2 hQ
  go_enter Try.func108, Try.ntmps108
  go_wp2_with fail
  refine HF.out.mono ?_
  rintro e w' ⟨rfl, rfl⟩
  go_wp2
  go_ret
  exact ⟨rfl, rfl⟩

theorem beside_cell {w : World} {x : Nat} {q : Nm} (c1 : w.cell? ⟨x, 1, none⟩ = some (nm q)) (hq : q.length ≤ 1000) : Calls Try.prog 129 #[.pointer (some ⟨x, 0, none⟩)] w fun e w' => e = .returned (nm (newN q)) ∧ w' = w := by
  have HF := Lib.hid (file_any q [110, 101, 119] hq (by decide) w)
  have e1 : q ++ [46] ++ [110, 101, 119] = newN q := by simp [newN]
  rw [e1] at HF
  have e2 : nm ([110, 101, 119] : Nm) = .string ⟨#[110, 101, 119]⟩ := rfl
  rw [e2] at HF
  obtain ⟨Q, hQ⟩ : ∃ Q, nm q = .string Q := ⟨_, rfl⟩
  rw [hQ] at c1 HF
  clear e1 e2 hQ
  go_enter Try.func129, Try.ntmps129
  go_wp2_with fail
  refine HF.out.mono ?_
  rintro e w' ⟨rfl, rfl⟩
  go_wp2
  go_ret
  exact ⟨rfl, rfl⟩

theorem place_any {w : World} {x d : Nat} {q : Nm} {v : Value} {t o : Bool} (hc : IsFile w x d q v t o) (hq : q.length ≤ 1000) : Calls Try.prog 108 #[.pointer (some ⟨x, 0, none⟩)] w fun e w' => e = .returned (nm (nowN q)) ∧ w' = w := place_cell (by rw [Blk.cell hc]; rfl) hq
theorem beside_any {w : World} {x d : Nat} {q : Nm} {v : Value} {t o : Bool} (hc : IsFile w x d q v t o) (hq : q.length ≤ 1000) : Calls Try.prog 129 #[.pointer (some ⟨x, 0, none⟩)] w fun e w' => e = .returned (nm (newN q)) ∧ w' = w := beside_cell (by rw [Blk.cell hc]; rfl) hq

theorem load_dp (W : World) (p : Addr) (v : Value) (h : W.cell? p = some v) : (Instr.loadAt 68 (.pointer (some p))).run Try.prog W = .ok v W := by
  have hagg : (isAgg 68).run Try.prog W = .ok false W := by kernel_rfl
  simp [Instr.loadAt, Instr.sureAddr, loadVar, Sem.run_bind, hagg, h]

/-- Bytes stay where the block in which they lie does. -/
theorem bys_same {w w' : World} {a : Option Addr} {n c : Nat} {l : List UInt8} (h : Bys w (.slice a n c) l) (hk : l ≠ [] → ∀ ad, a = some ad → w'.heap[ad.block]? = w.heap[ad.block]?) : Bys w' (.slice a n c) l := by
  rcases h with h | ⟨ad, cap, h1, h2⟩
  · exact .inl h
  · simp at h1
    obtain ⟨rfl, rfl, rfl⟩ := h1
    refine .inr ⟨ad, c, rfl, fun i hi => ?_⟩
    have h3 := h2 i hi
    rw [World.cell?_of_block (w := w) (by rw [add_block]; exact hk (fun e => by subst e; simp at hi) ad rfl)]
    exact h3
end Go.Proofs.Ytboongdoggggoaa
