/- EdgeLists: the walk. -/
import Derived.Test.YtgfcllgkfehhfaaEdgeLeast
import Derived.Test.YtgfcllgkfehhfaaEdgeRanks
import Derived.Test.YtgfcllgkfehhfaaFrame
import Derived.Laws.AppendOwnNone
namespace Go.Proofs.Ytgfcllgkfehhfaa
open Go.RowKit EdgeMath

theorem info_float : (Try.prog.info? 24).map (fun i => (i.zero, i.size, i.bytes)) = some (some (.float .f64 0), 1, 8) := by kernel_rfl

def fv (x : Nat) : Value := .float .f64 x

/-- A slice of floats of the call's own, from block B on. -/
def FRow (w : World) (B : Nat) (v : Value) (l : List Nat) : Prop := w.ownsRow B 24 1 v l.length (l.map fv)

theorem FRow.fls {w : World} {B : Nat} {v : Value} {l : List Nat} (h : FRow w B v l) : Fls w v l := by
  have h0 := h
  rcases h.2 with ⟨rfl, hl⟩ | ⟨g, cap, cur, rfl, hB, hg, hn, hm, hs, ht⟩
  · exact .inl ⟨rfl, List.eq_nil_of_length_eq_zero hl⟩
  · refine .inr ⟨g, cap, rfl, hn, fun i hi => ?_⟩
    rw [World.ownsRow.cellAt h0 i (by omega)]
    simp [fv, hi]

theorem float_one (w : World) (x : Value) : ∀ (j : Nat) (u : Value), [x][j]? = some u → (w.alloc (.cells #[x] 24)).cell? ((⟨w.heap.size, 0, none⟩ : Addr).add j) = some u := by
  intro j u h
  cases j with
  | zero => simp at h; subst h; simp [Addr.add, World.cell?_alloc_at]
  | succ j => simp at h

set_option maxHeartbeats 1000000 in
theorem lists_walk (a : Option Addr) (n cap : Nat) (L : List Nat) (w : World) (hL : L.length = n) (hnc : n ≤ cap) (hcap : cap * 8 ≤ 140737488351232) (hb : ∀ i (h : i < L.length), L[i] < 18446744073709551616)
    (hc : ∀ i (h : i < L.length), ∃ ad, a = some ad ∧ w.cell? (ad.add i) = some (.int .u64 (L[i] : Int))) :
    Calls Try.prog 6 #[.slice a n cap] w fun e w' => e = .returned (.bool true) ∧ Below w.heap.size w w' := by
  obtain ⟨i0, hi, hz0, hz1, hz2⟩ := info_parts info_float
  have HB := Lib.hid hb
  have HC := Lib.hid hc
  have HL := Lib.hid hL
  clear hb hc hL
  have hf := run_from
  go_enter Try.func6, Try.ntmps6
  go_wp2_with fail
  refine (awake_any _).mono ?_
  rintro e w1 ⟨rfl, hb1⟩
  have HB1 := Lib.hid hb1
  clear hb1
  go_wp2
  go_loopw [3, 4] (fun s3 s4 wr => ∃ i : Nat, i ≤ n ∧ s4 = .int .i64 (i : Int) ∧ FRow wr w.heap.size s3 (L.take i) ∧ Below w.heap.size w wr) (fun _ s4 _ => n - (intOf s4).toNat)
  case atStart => exact ⟨0, by omega, rfl, World.ownsRow_nil _ _ _ _, HB1.out⟩
  case round =>
    obtain ⟨i, hin, rfl, hrow, hbel⟩ := hrel
    have HR := Lib.hid hrow
    have HW := Lib.hid hbel
    clear hrow hbel
    by_cases hlt : i < n
    · have hil : i < L.length := by have := HL.out; omega
      obtain ⟨ad, rfl, hcell0⟩ := HC.out i hil
      have hcell : wr.cell? (ad.add i) = some (.int .u64 (L[i] : Int)) := by
        rw [HW.out.cell (World.block_lt_of_cell? w _ hcell0)]
        exact hcell0
      have htk : L.take (i + 1) = L.take i ++ [L[i]] := List.take_succ_eq_append_getElem hil
      have htl : (L.take i).length = i := by rw [List.length_take]; omega
      have htl' : (L.take (i + 1)).length = i + 1 := by rw [List.length_take]; omega
      obtain ⟨y, hye⟩ : ∃ y, y = L[i] := ⟨_, rfl⟩
      rw [← hye] at hcell htk
      have HT := Lib.hid htk
      have HTl := Lib.hid htl
      have HTl' := Lib.hid htl'
      clear hcell0 htk hye hil htl htl'
      go_wp2_with (at_builtin; refine wpList_append_own _ rfl _ _ 35 rfl w.heap.size 24 i0 (.float .f64 0) 1 8 Try.underlying35 hi hz0 hz1 hz2 rfl (by decide) _ _ _ rfl (World.ownsRow.alloc HR.out _) ⟨wr.heap.size, 0, none⟩ 1 1 [_] rfl rfl (float_one _ _) (by simp [Value.oneCell']) (by rw [HTl.out]; unfold maxLen; omega) (by rw [HTl.out]; omega) (by have := HW.out.size; simp; omega) ?_; intro v' w2 hown1 hgrow1 hnil1; (have HO1 := Lib.hid hown1); (have HG1 := Lib.hid hgrow1); clear hown1 hgrow1 hnil1)
      go_roundw
      case rel =>
        refine ⟨i + 1, by omega, by go_num, ?_, ?_⟩
        · have h := HO1.out
          rw [HTl.out] at h
          unfold FRow
          rw [HTl'.out, HT.out, List.map_append]
          simpa [fv] using h
        · refine Below.grown (HW.out.alloc HW.out.size _) HG1.out (by have := HW.out.size; simp; omega) (fun k hk => ?_)
          exact (World.ownsRow.lt HR.out k hk).1
      case measure => simp [intOf]; omega
    · have hfl : Fls wr u3 L := by
        have h := HR.out
        rw [List.take_of_length_le (by have := HL.out; omega)] at h
        exact h.fls
      have HF := Lib.hid hfl
      have hll : L.length ≤ 140737488355328 := by have := HL.out; omega
      clear hfl hf
      go_wp2_with fail
      refine (least_any u3 L wr HF.out HB.out hll).mono ?_
      rintro e w' ⟨p, rfl, hp, hpk, rfl⟩
      have HP := Lib.hid hpk
      clear hpk
      go_wp2_with fail
      refine (most_any u3 L wr HF.out HB.out hll).mono ?_
      rintro e w' ⟨q, rfl, hq, hqk, rfl⟩
      have HQ := Lib.hid hqk
      clear hqk
      have hsh : ∃ (a3 : Option Addr) (c3 : Nat), u3 = .slice a3 n c3 ∧ ∀ j (h : j < L.length), ∃ g, a3 = some ⟨g, 0, none⟩ ∧ n ≤ c3 ∧ wr.cell? ⟨g, j, none⟩ = some (.float .f64 L[j]) := by
        rcases HF.out with ⟨h1, h2⟩ | ⟨g, c3, h1, h2, h3⟩
        · have hn0 : n = 0 := by rw [← HL.out, h2]; rfl
          exact ⟨none, 0, by rw [h1, hn0], fun j h => by rw [h2] at h; simp at h⟩
        · exact ⟨some ⟨g, 0, none⟩, c3, by rw [h1, HL.out], fun j h => ⟨g, rfl, by rw [← HL.out]; exact h2, h3 j h⟩⟩
      obtain ⟨a3, c3, rfl, hcs⟩ := hsh
      have HCs := Lib.hid hcs
      clear hcs hlt hin
      obtain ⟨wo, rfl⟩ : ∃ wo : World, wo = wr := ⟨_, rfl⟩
      go_wp2
      go_loop [7] (fun s7 => ∃ j : Nat, j ≤ n ∧ s7 = .int .i64 (j : Int)) (fun s7 => n - (intOf s7).toNat)
      case atStart => exact ⟨0, by omega, rfl⟩
      case round =>
        obtain ⟨j, hj, rfl⟩ := hrel
        by_cases hlt : j < n
        · have hjl : j < L.length := by have := HL.out; omega
          obtain ⟨g, rfl, hnc3, hcell⟩ := HCs.out j hjl
          have hy := HB.out j hjl
          have hlo := lowTo_le L L.length (Nat.le_refl _) j hjl hjl
          have hhi := highTo_ge L L.length (Nat.le_refl _) j hjl hjl
          obtain ⟨y, hye⟩ : ∃ y, y = L[j] := ⟨_, rfl⟩
          rw [← hye] at hcell hy hlo hhi
          rw [← HP.out] at hlo
          rw [← HQ.out] at hhi
          obtain ⟨o1, ho1, hb1, hb2⟩ := ord_nonpos p y (by omega)
          obtain ⟨o2, ho2, hb3, hb4⟩ := ord_nonneg q y (by omega)
          have HO1 := Lib.hid ho1
          have HO2 := Lib.hid ho2
          clear hye hlo hhi ho1 ho2 hjl
          go_wp2_with fail
          refine (order_named p y o1 _ hp hy HO1.out).mono ?_
          rintro e w' ⟨rfl, rfl⟩
          go_wp2_with fail
          refine (order_named q y o2 _ hq hy HO2.out).mono ?_
          rintro e w' ⟨rfl, rfl⟩
          go_wp2
          go_round
          case rel => exact ⟨j + 1, by omega, by go_num⟩
          case measure => simp [intOf]; omega
        · go_wp2_with fail
          refine (refleast_any _ L _ HF.out HB.out hll).mono ?_
          rintro e w' ⟨p', rfl, hp', hpk, rfl⟩
          have HP' := Lib.hid hpk
          clear hpk
          go_wp2_with fail
          refine (same_true p p' _ hp hp' (by rw [HP.out, HP'.out])).mono ?_
          rintro e w' ⟨rfl, rfl⟩
          go_wp2_with fail
          refine (refmost_any _ L _ HF.out HB.out hll).mono ?_
          rintro e w' ⟨q', rfl, hq', hqk, rfl⟩
          have HQ' := Lib.hid hqk
          clear hqk
          go_wp2_with fail
          refine (same_true q q' _ hq hq' (by rw [HQ.out, HQ'.out])).mono ?_
          rintro e w' ⟨rfl, rfl⟩
          go_wp2
          go_ret
          exact ⟨rfl, HW.out⟩

theorem lists_all (w : World) (a : Option Addr) (n cap : Nat) (z : List Int) (hz : IsRow .u64 w a n cap z) (sz : cap * 8 ≤ 140737488351232) :
    Calls Try.prog 6 #[.slice a n cap] w fun e w' => e = .returned (.bool true) ∧ Below w.heap.size w w' := by
  rcases hz with ⟨rfl, rfl, rfl, rfl⟩ | ⟨ad, rfl, hl, hm, hzl, hc, hw⟩
  · exact lists_walk none 0 0 [] w rfl (by omega) (by omega) (fun i h => by simp at h) (fun i h => by simp at h)
  · have hbd : ∀ i (h : i < z.length), 0 ≤ z[i] ∧ z[i] < 18446744073709551616 := fun i h => by
      have := bounds_u64 (hw z[i] (List.getElem_mem h))
      omega
    have hlen : ((z.take n).map Int.toNat).length = n := by rw [List.length_map, List.length_take]; omega
    refine lists_walk (some ad) n cap ((z.take n).map Int.toNat) w hlen hl sz (fun i h => ?_) (fun i h => ⟨ad, rfl, ?_⟩)
    · have hi : i < z.length := by omega
      have := hbd i hi
      simp only [List.getElem_map, List.getElem_take]
      omega
    · have hi : i < z.length := by omega
      have := hbd i hi
      rw [hc i hi]
      simp only [List.getElem_map, List.getElem_take, List.getD, List.getElem?_eq_getElem hi, Option.getD_some]
      congr 2
      omega

end Go.Proofs.Ytgfcllgkfehhfaa
