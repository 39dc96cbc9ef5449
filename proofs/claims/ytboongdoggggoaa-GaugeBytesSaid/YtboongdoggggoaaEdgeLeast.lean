/- edge.Least and edge.Most over a slice of floats. -/
import Derived.Test.YtboongdoggggoaaEdgeSame
namespace Go.Proofs.Ytboongdoggggoaa
set_option maxRecDepth 20000
open Go.RowKit EdgeMath

/-- A slice of floats that begins where its block does: the bits l. -/
def Fls (w : World) (v : Value) (l : List Nat) : Prop :=
  (v = .slice none 0 0 ∧ l = []) ∨
  ∃ g cap, v = .slice (some ⟨g, 0, none⟩) l.length cap ∧ l.length ≤ cap ∧ ∀ i (h : i < l.length), w.cell? ⟨g, i, none⟩ = some (.float .f64 l[i])

/-- The first of the first j; the last of them. -/
def lowTo (l : List Nat) (j : Nat) : Int := match l with
  | [] => 9218868437227405312
  | x :: xs => (xs.take (j - 1)).foldl (fun m y => if rk y < m then rk y else m) (rk x)

def highTo (l : List Nat) (j : Nat) : Int := match l with
  | [] => -9218868437227405313
  | x :: xs => (xs.take (j - 1)).foldl (fun m y => if m < rk y then rk y else m) (rk x)

theorem lowTo_one (x : Nat) (xs : List Nat) : lowTo (x :: xs) 1 = rk x := rfl
theorem highTo_one (x : Nat) (xs : List Nat) : highTo (x :: xs) 1 = rk x := rfl

theorem lowTo_step (l : List Nat) (j : Nat) (h1 : 1 ≤ j) (hj : j < l.length) : lowTo l (j + 1) = if rk l[j] < lowTo l j then rk l[j] else lowTo l j := by
  cases l with
  | nil => simp at hj
  | cons x xs =>
    obtain ⟨i, rfl⟩ : ∃ i, j = i + 1 := ⟨j - 1, by omega⟩
    have hi : i < xs.length := by simpa using hj
    simp only [lowTo, Nat.add_sub_cancel, List.getElem_cons_succ]
    rw [List.take_add_one, List.getElem?_eq_getElem hi, List.foldl_append]
    rfl

theorem highTo_step (l : List Nat) (j : Nat) (h1 : 1 ≤ j) (hj : j < l.length) : highTo l (j + 1) = if highTo l j < rk l[j] then rk l[j] else highTo l j := by
  cases l with
  | nil => simp at hj
  | cons x xs =>
    obtain ⟨i, rfl⟩ : ∃ i, j = i + 1 := ⟨j - 1, by omega⟩
    have hi : i < xs.length := by simpa using hj
    simp only [highTo, Nat.add_sub_cancel, List.getElem_cons_succ]
    rw [List.take_add_one, List.getElem?_eq_getElem hi, List.foldl_append]
    rfl

theorem lowTo_le (l : List Nat) (j : Nat) (hj : j ≤ l.length) : ∀ i (h : i < l.length), i < j → lowTo l j ≤ rk l[i] := by
  induction j with
  | zero => intro i h h2; omega
  | succ j ih =>
    intro i h h2
    by_cases h0 : j = 0
    · subst h0
      obtain rfl : i = 0 := by omega
      cases l with
      | nil => simp at h
      | cons x xs => exact Int.le_refl _
    · rw [lowTo_step l j (by omega) (by omega)]
      by_cases hij : i = j
      · subst hij
        split <;> omega
      · have := ih (by omega) i h (by omega)
        split <;> omega

theorem highTo_ge (l : List Nat) (j : Nat) (hj : j ≤ l.length) : ∀ i (h : i < l.length), i < j → rk l[i] ≤ highTo l j := by
  induction j with
  | zero => intro i h h2; omega
  | succ j ih =>
    intro i h h2
    by_cases h0 : j = 0
    · subst h0
      obtain rfl : i = 0 := by omega
      cases l with
      | nil => simp at h
      | cons x xs => exact Int.le_refl _
    · rw [highTo_step l j (by omega) (by omega)]
      by_cases hij : i = j
      · subst hij
        split <;> omega
      · have := ih (by omega) i h (by omega)
        split <;> omega

theorem elem_floats : Try.prog.elem 109 = 52 := by kernel_rfl
theorem size_float (w : World) : (Go.sizeOf 52).run Try.prog w = .ok 1 w := by kernel_rfl

/-- 'list[1:]'. -/
theorem slice_rest (g n c : Nat) (hc : n + 1 ≤ c) : ∃ q, (∀ W, (Instr.sliceAt 109 (.slice (some ⟨g, 0, none⟩) (n + 1) c) (some (.int .i64 1)) none none).run Try.prog W = .ok (.slice (some q) n (c - 1)) W) ∧ (0 < n → q = ⟨g, 1, none⟩) := by
  have ht : Try.prog.underlying 109 = some (.slice (Try.prog.elem 109)) := by rw [elem_floats]; exact Try.underlying109
  refine ⟨if c = 1 then ⟨g, 0, none⟩ else ⟨g, 1, none⟩, fun W => ?_, fun h => by rw [if_neg (by omega)]⟩
  rw [run_sliceAt_slice _ _ _ _ _ _ ht, run_slice_l _ _ _ _ _ ht .i64 (1 : Int) (by omega) (by omega), elem_floats, size_float]
  by_cases h : c = 1
  · simp [Result.andThen, sliced, h]
  · simp [Result.andThen, sliced, h, Addr.add]

theorem ord_less (x y : Nat) (h : rk x < rk y) : (-1 : Int) = ord (rk x) (rk y) := by unfold ord; rw [if_pos h]
theorem ord_more (x y : Nat) (h : rk y < rk x) : (1 : Int) = ord (rk x) (rk y) := by unfold ord; rw [if_neg (by omega), if_pos h]
theorem ord_nonneg (x y : Nat) (h : ¬ rk x < rk y) : ∃ o, o = ord (rk x) (rk y) ∧ 0 ≤ o ∧ o ≤ 1 := by
  refine ⟨_, rfl, ?_⟩
  unfold ord
  rw [if_neg h]
  split <;> omega
theorem ord_nonpos (x y : Nat) (h : ¬ rk y < rk x) : ∃ o, o = ord (rk x) (rk y) ∧ o ≤ 0 ∧ -1 ≤ o := by
  refine ⟨_, rfl, ?_⟩
  unfold ord
  (repeat' split) <;> omega

set_option maxHeartbeats 1000000 in
theorem least_any (v : Value) (l : List Nat) (w : World) (hv : Fls w v l) (hb : ∀ i (h : i < l.length), l[i] < 18446744073709551616) (hl : l.length ≤ 140737488355328) :
    Calls Try.prog 97 #[v] w fun e w' => ∃ f, e = .returned (.float .f64 f) ∧ f < 18446744073709551616 ∧ rk f = lowTo l l.length ∧ w = w' := by
  by_cases h0 : l = []
  · subst h0
    obtain ⟨a, cap, rfl⟩ : ∃ a cap, v = .slice a 0 cap := by
      rcases hv with ⟨rfl, _⟩ | ⟨g, cap, rfl, _⟩
      · exact ⟨_, _, rfl⟩
      · exact ⟨_, _, rfl⟩
    clear hv hb hl
    go_enter Try.func97, Try.ntmps97
    go_wp2_with (go_at_call 100; refine (inf_plus _).mono ?_; rintro e w' ⟨rfl, rfl⟩)
    go_ret
    exact ⟨_, rfl, by omega, by rfl, rfl⟩
  · obtain ⟨g, cap, hve, hlc, hc⟩ : ∃ g cap, v = .slice (some ⟨g, 0, none⟩) l.length cap ∧ l.length ≤ cap ∧ ∀ i (h : i < l.length), w.cell? ⟨g, i, none⟩ = some (.float .f64 l[i]) := by
      rcases hv with ⟨_, h⟩ | h
      · exact absurd h h0
      · exact h
    obtain ⟨n, hn⟩ : ∃ n, l.length = n + 1 := ⟨l.length - 1, by have := List.length_pos_iff.2 h0; omega⟩
    have hone : lowTo l 1 = rk (l[0]'(by omega)) := by
      cases l with
      | nil => exact absurd rfl h0
      | cons x xs => rfl
    have hx := hb 0 (by omega)
    have hc0 := hc 0 (by omega)
    obtain ⟨x, hxe⟩ : ∃ x, x = l[0]'(by omega) := ⟨_, rfl⟩
    rw [← hxe] at hone hx hc0
    rw [hn] at hve hlc
    subst hve
    have HC := Lib.hid hc
    have HB := Lib.hid hb
    have HN := Lib.hid hn
    have HO := Lib.hid hone
    have hn1 : n ≤ 140737488355328 := by omega
    have h00 : (((n : Int) + 1) == 0) = false := by simp; omega
    clear hc hb hone hv h0 hxe hl
    obtain ⟨q, hq, hqe⟩ := slice_rest g n cap hlc
    have HQ := Lib.hid hqe
    clear hqe hn
    go_enter Try.func97, Try.ntmps97
    go_wp2
    clear hq hc0
    go_loop [3, 16] (fun s3 s16 => ∃ i m : Nat, i ≤ n ∧ s16 = .int .i64 (i : Int) ∧ s3 = .float .f64 m ∧ m < 18446744073709551616 ∧ rk m = lowTo l (i + 1)) (fun _ s16 => n - (intOf s16).toNat)
    case atStart => exact ⟨0, x, by omega, rfl, rfl, hx, HO.out.symm⟩
    case round =>
      obtain ⟨i, m, hi, rfl, rfl, hm, hmk⟩ := hrel
      have HM := Lib.hid hmk
      clear hmk
      by_cases hlt : i < n
      · obtain rfl := HQ.out (by omega)
        have hil : i + 1 < l.length := by have := HN.out; omega
        have hcell := HC.out (i + 1) hil
        have hy := HB.out (i + 1) hil
        have hst := lowTo_step l (i + 1) (by omega) hil
        obtain ⟨y, hye⟩ : ∃ y, y = l[i + 1] := ⟨_, rfl⟩
        rw [← hye] at hcell hy hst
        rw [← HM.out] at hst
        rw [Nat.add_comm i 1] at hcell
        have HS := Lib.hid hst
        clear hst hye hil
        by_cases hyl : rk y < rk m
        · have ho := ord_less y m hyl
          have HOr := Lib.hid ho
          have HY := Lib.hid hyl
          clear ho hyl
          go_wp2_with fail
          refine (order_named y m (-1) _ hy hm HOr.out).mono ?_
          rintro e w' ⟨rfl, rfl⟩
          go_wp2
          go_round
          case rel => exact ⟨i + 1, y, by omega, by go_num, rfl, hy, by rw [HS.out, if_pos HY.out]⟩
          case measure => simp [intOf]; omega
        · obtain ⟨o, ho, hob⟩ := ord_nonneg y m hyl
          have HOr := Lib.hid ho
          have HY := Lib.hid hyl
          obtain ⟨hob1, hob2⟩ := hob
          clear ho hyl
          go_wp2_with fail
          refine (order_named y m o _ hy hm HOr.out).mono ?_
          rintro e w' ⟨rfl, rfl⟩
          go_wp2
          go_round
          case rel => exact ⟨i + 1, m, by omega, by go_num, rfl, hm, by rw [HS.out, if_neg (by have := HY.out; omega)]⟩
          case measure => simp [intOf]; omega
      · go_wp2
        go_ret
        refine ⟨_, rfl, hm, ?_, rfl⟩
        rw [HM.out, HN.out, show i = n by omega]

set_option maxHeartbeats 1000000 in
theorem most_any (v : Value) (l : List Nat) (w : World) (hv : Fls w v l) (hb : ∀ i (h : i < l.length), l[i] < 18446744073709551616) (hl : l.length ≤ 140737488355328) :
    Calls Try.prog 98 #[v] w fun e w' => ∃ f, e = .returned (.float .f64 f) ∧ f < 18446744073709551616 ∧ rk f = highTo l l.length ∧ w = w' := by
  by_cases h0 : l = []
  · subst h0
    obtain ⟨a, cap, rfl⟩ : ∃ a cap, v = .slice a 0 cap := by
      rcases hv with ⟨rfl, _⟩ | ⟨g, cap, rfl, _⟩
      · exact ⟨_, _, rfl⟩
      · exact ⟨_, _, rfl⟩
    clear hv hb hl
    go_enter Try.func98, Try.ntmps98
    go_wp2_with (go_at_call 100; refine (inf_minus _).mono ?_; rintro e w' ⟨rfl, rfl⟩)
    go_ret
    exact ⟨_, rfl, by omega, by rfl, rfl⟩
  · obtain ⟨g, cap, hve, hlc, hc⟩ : ∃ g cap, v = .slice (some ⟨g, 0, none⟩) l.length cap ∧ l.length ≤ cap ∧ ∀ i (h : i < l.length), w.cell? ⟨g, i, none⟩ = some (.float .f64 l[i]) := by
      rcases hv with ⟨_, h⟩ | h
      · exact absurd h h0
      · exact h
    obtain ⟨n, hn⟩ : ∃ n, l.length = n + 1 := ⟨l.length - 1, by have := List.length_pos_iff.2 h0; omega⟩
    have hone : highTo l 1 = rk (l[0]'(by omega)) := by
      cases l with
      | nil => exact absurd rfl h0
      | cons x xs => rfl
    have hx := hb 0 (by omega)
    have hc0 := hc 0 (by omega)
    obtain ⟨x, hxe⟩ : ∃ x, x = l[0]'(by omega) := ⟨_, rfl⟩
    rw [← hxe] at hone hx hc0
    rw [hn] at hve hlc
    subst hve
    have HC := Lib.hid hc
    have HB := Lib.hid hb
    have HN := Lib.hid hn
    have HO := Lib.hid hone
    have hn1 : n ≤ 140737488355328 := by omega
    have h00 : (((n : Int) + 1) == 0) = false := by simp; omega
    clear hc hb hone hv h0 hxe hl
    obtain ⟨q, hq, hqe⟩ := slice_rest g n cap hlc
    have HQ := Lib.hid hqe
    clear hqe hn
    go_enter Try.func98, Try.ntmps98
    go_wp2
    clear hq hc0
    go_loop [3, 16] (fun s3 s16 => ∃ i m : Nat, i ≤ n ∧ s16 = .int .i64 (i : Int) ∧ s3 = .float .f64 m ∧ m < 18446744073709551616 ∧ rk m = highTo l (i + 1)) (fun _ s16 => n - (intOf s16).toNat)
    case atStart => exact ⟨0, x, by omega, rfl, rfl, hx, HO.out.symm⟩
    case round =>
      obtain ⟨i, m, hi, rfl, rfl, hm, hmk⟩ := hrel
      have HM := Lib.hid hmk
      clear hmk
      by_cases hlt : i < n
      · obtain rfl := HQ.out (by omega)
        have hil : i + 1 < l.length := by have := HN.out; omega
        have hcell := HC.out (i + 1) hil
        have hy := HB.out (i + 1) hil
        have hst := highTo_step l (i + 1) (by omega) hil
        obtain ⟨y, hye⟩ : ∃ y, y = l[i + 1] := ⟨_, rfl⟩
        rw [← hye] at hcell hy hst
        rw [← HM.out] at hst
        rw [Nat.add_comm i 1] at hcell
        have HS := Lib.hid hst
        clear hst hye hil
        by_cases hyl : rk m < rk y
        · have ho := ord_more y m hyl
          have HOr := Lib.hid ho
          have HY := Lib.hid hyl
          clear ho hyl
          go_wp2_with fail
          refine (order_named y m 1 _ hy hm HOr.out).mono ?_
          rintro e w' ⟨rfl, rfl⟩
          go_wp2
          go_round
          case rel => exact ⟨i + 1, y, by omega, by go_num, rfl, hy, by rw [HS.out, if_pos HY.out]⟩
          case measure => simp [intOf]; omega
        · obtain ⟨o, ho, hob⟩ := ord_nonpos y m hyl
          have HOr := Lib.hid ho
          have HY := Lib.hid hyl
          obtain ⟨hob1, hob2⟩ := hob
          clear ho hyl
          go_wp2_with fail
          refine (order_named y m o _ hy hm HOr.out).mono ?_
          rintro e w' ⟨rfl, rfl⟩
          go_wp2
          go_round
          case rel => exact ⟨i + 1, m, by omega, by go_num, rfl, hm, by rw [HS.out, if_neg (by have := HY.out; omega)]⟩
          case measure => simp [intOf]; omega
      · go_wp2
        go_ret
        refine ⟨_, rfl, hm, ?_, rfl⟩
        rw [HM.out, HN.out, show i = n by omega]

end Go.Proofs.Ytboongdoggggoaa
