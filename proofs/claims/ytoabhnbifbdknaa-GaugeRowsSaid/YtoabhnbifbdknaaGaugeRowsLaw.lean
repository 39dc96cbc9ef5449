/- GaugeRows: the walk. -/
import Derived.Test.YtoabhnbifbdknaaGaugeRefRows
import Derived.Test.YtoabhnbifbdknaaGaugeRawOpen
import Derived.Test.YtoabhnbifbdknaaFrame
import Derived.Deep.Slices
import Derived.OpenShut
namespace Go.Proofs.Ytoabhnbifbdknaa
open Go.RowKit EdgeMath Reg Go.ChangeShapes Go.ChangeAt Go.WideShapes Go.Deep

theorem gauge_info : (Try.prog.info? 27).map (fun i => (i.zero, i.size, i.bytes)) = some (some (.agg #[.int .u64 0, .float .f64 0, .float .f64 0, .float .f64 0, .float .f64 0]), 5, 40) := by kernel_rfl

theorem flat_five (ms : List G) : ∀ i (h : i < ms.length) c, c < 5 → (ms.flatMap fun a => a.cells.toList)[i * 5 + c]? = (ms[i].cells)[c]? := by
  induction ms with
  | nil => intro i h; simp at h
  | cons a ms ih =>
    intro i h c hc
    have hl : a.cells.toList.length = 5 := rfl
    rw [List.flatMap_cons]
    cases i with
    | zero =>
      rw [List.getElem?_append_left (by rw [hl]; omega), Nat.zero_mul, Nat.zero_add]
      simp
    | succ i =>
      rw [List.getElem?_append_right (by rw [hl]; omega), hl, show (i + 1) * 5 + c - 5 = i * 5 + c by omega, ih i (by simpa using h) c hc]
      rfl

theorem flat_len (ms : List G) : (ms.flatMap fun a => a.cells.toList).length = ms.length * 5 := by
  induction ms with
  | nil => rfl
  | cons a ms ih =>
    rw [List.flatMap_cons, List.length_append, ih, List.length_cons]
    show 5 + _ = _
    omega

/-- A slice of gauges of the call's own. -/
def GRow (w : World) (B : Nat) (v : Value) (ms : List G) : Prop := w.ownsRow B 27 5 v ms.length (ms.flatMap fun a => a.cells.toList)

theorem GRow.gls {w : World} {B : Nat} {v : Value} {ms : List G} (h : GRow w B v ms) : Gls w v ms := by
  have h0 := h
  rcases h.2 with ⟨rfl, hl⟩ | ⟨g, cap, cur, rfl, hB, hg, hn, -⟩
  · exact ⟨none, 0, by rw [hl], by omega, fun i hi => by omega⟩
  · refine ⟨some ⟨g, 0, none⟩, cap, rfl, hn, fun i hi => ⟨g, rfl, fun c u hu => ?_⟩⟩
    have hc : c < 5 := (Array.getElem?_eq_some_iff.1 hu).1
    rw [World.ownsRow.cellAt h0 (i * 5 + c) (by omega), flat_five ms i hi c hc]
    exact hu

/-- A slice of raw gauges that came in. -/
def Rls (w : World) (a : Option Addr) (rs : List G) : Prop := ∀ i (h : i < rs.length), ∃ ad, a = some ad ∧ ∀ c u, (rs[i].raws)[c]? = some u → w.cell? (ad.add (i * 5 + c)) = some u

theorem raws_index (W : World) (ad : Addr) (n cap i : Nat) (hi : i < n) : (Instr.indexAt 37 (.slice (some ad) n cap) (.int .i64 (i : Int))).run Try.prog W = .ok (.pointer (some (ad.add (i * 5)))) W := by
  have he : Try.prog.elem 37 = 41 := by kernel_rfl
  have hs : (Go.sizeOf 41).run Try.prog W = .ok 5 W := by kernel_rfl
  have ht : Try.prog.underlying 37 = some (.slice (Try.prog.elem 37)) := by rw [he]; exact Try.underlying37
  rw [run_indexAt_slice (h := ht), if_pos (by omega), he, hs]
  simp [Result.andThen]

theorem raws_load {w : World} {ad : Addr} {i : Nat} {g : G} (h : ∀ c u, (g.raws)[c]? = some u → w.cell? (ad.add (i * 5 + c)) = some u) : (Instr.loadAt 41 (.pointer (some (ad.add (i * 5))))).run Try.prog w = .ok (.agg g.raws) w := by
  have hi : (Try.prog.info? 41).map (·.size) = some 5 := by kernel_rfl
  have := loads_cells (P := Try.prog) (W := w) (ad.add (i * 5)) 41 _ g.raws.toList Try.underlying41 rfl hi (fun j u hu => by
    have hadd : (ad.add (i * 5)).add j = ad.add (i * 5 + j) := by
      unfold Addr.add
      split <;> split <;> simp_all <;> omega
    rw [hadd]
    exact h j u (by simpa using hu))
  simpa using this

theorem gauge_one (w : World) (b : G) : ∀ (j : Nat) (u : Value), (b.cells.toList)[j]? = some u → (w.alloc (.cells b.cells 27)).cell? ((⟨w.heap.size, 0, none⟩ : Addr).add j) = some u := by
  intro j u h
  have hadd : (⟨w.heap.size, 0, none⟩ : Addr).add j = ⟨w.heap.size, j, none⟩ := by unfold Addr.add; split <;> simp_all
  rw [hadd, World.cell?_alloc_at (hn := rfl)]
  simpa using h

theorem raws_open {H : Type} {enc : TypeId × Value → H} {W : World} {a : Option Addr} {len cap fuel : Nat} {x : DataW H × List MemPlace}
    (hf : DataW.trod enc Try.prog W 0 (fun _ => true) true fuel 37 (Value.slice a len cap).cells.toList = some x) : ∃ rs : List G, rs.length = len ∧ (∀ i (h : i < rs.length), rs[i].Ok) ∧ Rls W a rs := by
  rcases open_slice Try.underlying37 hf with ⟨hcs, _⟩ | ⟨ad, ln, c, m, n, D, Pl, hcs, _, hl, hm, hmm, hx, hel⟩
  · simp [Value.cells] at hcs
    obtain ⟨rfl, rfl, rfl⟩ := hcs
    exact ⟨[], rfl, fun i h => by simp at h, fun i h => by simp at h⟩
  · simp [Value.cells] at hcs
    obtain ⟨rfl, rfl, rfl⟩ := hcs
    have hC : Try.prog.cellsOf 41 = 5 := by kernel_rfl
    simp only [if_true] at hmm
    have hall : ∀ i, ∃ g : G, i < len → g.Ok ∧ ∀ c u, (g.raws)[c]? = some u → W.cell? (ad.add (i * 5 + c)) = some u := fun i => by
      by_cases hi : i < len
      · obtain ⟨cs', h1, h2⟩ := hel i (by omega)
        rw [hC] at h1
        obtain ⟨-, hlen, hcell⟩ := World.cells?_some h1
        obtain ⟨g, hg, rfl⟩ := raw_open h2
        refine ⟨g, fun _ => ⟨hg, fun c u hu => ?_⟩⟩
        have hc : c < 5 := (Array.getElem?_eq_some_iff.1 hu).1
        have hz := hcell c hc
        have hadd : (ad.add (i * 5)).add c = ad.add (i * 5 + c) := by
          unfold Addr.add
          split <;> split <;> simp_all <;> omega
        rw [hadd] at hz
        rw [hz]
        simpa using hu
      · exact ⟨G.none, fun h => absurd h hi⟩
    refine ⟨(List.range len).map fun i => Classical.choose (hall i), by simp, fun i h => ?_, fun i h => ⟨ad, rfl, ?_⟩⟩
    · have hi : i < len := by simpa using h
      simp only [List.getElem_map, List.getElem_range]
      exact (Classical.choose_spec (hall i) hi).1
    · have hi : i < len := by simpa using h
      simp only [List.getElem_map, List.getElem_range]
      exact (Classical.choose_spec (hall i) hi).2

set_option maxRecDepth 100000 in
set_option maxHeartbeats 2000000 in
theorem rowslaw_walk (a : Option Addr) (n cap : Nat) (rs : List G) (w : World) (hl : rs.length = n) (hok : ∀ i (h : i < rs.length), rs[i].Ok) (hr : Rls w a rs) :
    Calls Try.prog 4 #[.slice a n cap] w fun e w' => e = .returned (.bool true) ∧ Below w.heap.size w w' := by
  obtain ⟨i0, hi, hz0, hz1, hz2⟩ := info_parts gauge_info
  have HL := Lib.hid hl
  have HOk := Lib.hid hok
  have HRs := Lib.hid hr
  clear hl hok hr
  go_enter Try.func4, Try.ntmps4
  go_wp2_with fail
  refine (gawake_any _).mono ?_
  rintro e w1 ⟨rfl, hb1⟩
  have HB1 := Lib.hid hb1
  clear hb1
  go_wp2
  go_loopw [3, 4] (fun s3 s4 wr => ∃ i : Nat, i ≤ n ∧ i ≤ 100 ∧ s4 = .int .i64 (i : Int) ∧ GRow wr w.heap.size s3 (rs.take i) ∧ Below w.heap.size w wr) (fun _ s4 _ => n - (intOf s4).toNat)
  case atStart => exact ⟨0, by omega, by omega, rfl, World.ownsRow_nil _ _ _ _, HB1.out⟩
  case round =>
    obtain ⟨i, hin, hi3, rfl, hrow, hbel⟩ := hrel
    have HR := Lib.hid hrow
    have HW := Lib.hid hbel
    clear hrow hbel HB1
    by_cases hlt : i < n ∧ i < 100
    · obtain ⟨hlt, hlt3⟩ := hlt
      have hil : i < rs.length := by have := HL.out; omega
      obtain ⟨ad, rfl, hcs⟩ := HRs.out i hil
      have htk : rs.take (i + 1) = rs.take i ++ [rs[i]] := List.take_succ_eq_append_getElem hil
      have htl : (rs.take i).length = i := by rw [List.length_take]; omega
      obtain ⟨g, hg⟩ : ∃ g, g = rs[i] := ⟨_, rfl⟩
      rw [← hg] at hcs htk
      have HLd := Lib.hid (raws_load (w := wr) (ad := ad) (i := i) (g := g) (fun c u hu => by rw [HW.out.cell (World.block_lt_of_cell? w _ (hcs c u hu))]; exact hcs c u hu))
      have hidx := fun W => raws_index W ad n cap i hlt
      have HT := Lib.hid htk
      have HTl := Lib.hid htl
      clear hcs htk htl hg hil
      go_wp2_with (refine wpList_load_by rfl 41 (.tmp 23) rfl _ _ rfl HLd.out ?_)
      refine (raw_any g _).mono ?_
      rintro e w2 ⟨rfl, hb2⟩
      have HR2 := Lib.hid (ownsRow_keep HR.out hb2)
      have HW2 := Lib.hid (HW.out.trans (hb2.mono HW.out.size))
      have hcg : g.cells = #[.int .u64 (g.n : Int), .float .f64 g.m, .float .f64 g.s, .float .f64 g.lo, .float .f64 g.hi] := rfl
      clear hb2 HR HW
      have hone : ∀ u ∈ g.cells.toList, u.oneCell' = true := fun u hu => by
        simp [EdgeMath.G.cells] at hu
        rcases hu with rfl | rfl | rfl | rfl | rfl <;> rfl
      have HOne := Lib.hid hone
      have hgone := gauge_one w2 g
      rw [hcg] at hgone
      have HGone := Lib.hid hgone
      have HCg := Lib.hid hcg
      clear hone hgone hcg
      rw [HCg.out]
      go_wp2_with (at_builtin; refine wpList_append_own _ rfl _ _ 38 rfl w.heap.size 27 i0 (.agg #[.int .u64 0, .float .f64 0, .float .f64 0, .float .f64 0, .float .f64 0]) 5 40 Try.underlying38 hi hz0 hz1 hz2 rfl (by decide) _ _ _ rfl (World.ownsRow.alloc HR2.out _) ⟨w2.heap.size, 0, none⟩ 1 1 (#[.int .u64 (g.n : Int), .float .f64 g.m, .float .f64 g.s, .float .f64 g.lo, .float .f64 g.hi] : Array Value).toList rfl rfl HGone.out (by rw [← HCg.out]; exact HOne.out) (by rw [HTl.out]; unfold maxLen; omega) (by rw [HTl.out]; omega) (by have := HW2.out.size; simp; omega) ?_; intro v' w3 hown1 hgrow1 hnil1; (have HO1 := Lib.hid hown1); (have HG1 := Lib.hid hgrow1); clear hown1 hgrow1 hnil1)
      go_roundw
      case rel =>
        refine ⟨i + 1, by omega, by omega, by go_num, ?_, ?_⟩
        · have h := HO1.out
          unfold GRow
          rw [HT.out, List.length_append, List.flatMap_append, List.flatMap_cons, List.flatMap_nil, List.append_nil, HCg.out]
          exact h
        · exact Below.grown (HW2.out.alloc HW2.out.size _) HG1.out (by have := HW2.out.size; simp; omega) (fun k hk => (World.ownsRow.lt HR2.out k hk).1)
      case measure => simp [intOf]; omega
    · obtain ⟨ms, hms⟩ : ∃ ms, ms = rs.take i := ⟨_, rfl⟩
      have HGl := Lib.hid (show Gls wr u3 ms by rw [hms]; exact HR.out.gls)
      have HMo := Lib.hid (show ∀ j (h : j < ms.length), ms[j].Ok from fun j h => by
        subst hms
        rw [List.getElem_take]
        exact HOk.out j _)
      have HMl := Lib.hid (show ms.length ≤ 100 by rw [hms, List.length_take]; omega)
      have hout : n ≤ i ∨ (i < n ∧ 100 ≤ i) := by omega
      clear hms hlt hin hi3 HR HRs HOk HL hi
      obtain ⟨wo, rfl⟩ : ∃ wo : World, wo = wr := ⟨_, rfl⟩
      rcases hout with ho | ⟨ho1, ho2⟩
      · go_wp2_with fail
        refine (rows_any ms u3 wo HGl.out HMo.out (by have := HMl.out; omega)).mono ?_
        rintro e w5 ⟨ga, P, rfl, hnb, hpl, -, hb5⟩
        have HN5 := Lib.hid hnb
        have HP5 := Lib.hid hpl
        have HGl5 := Lib.hid (HGl.out.keep hb5)
        have HB5 := Lib.hid (HW.out.trans (hb5.mono HW.out.size))
        clear hnb hpl hb5
        go_wp2_with fail
        refine (refrows_any ms u3 _ HGl5.out HMo.out (by have := HMl.out; omega)).mono ?_
        rintro e w6 ⟨v6, Q, rfl, hir, hpq, hb6⟩
        obtain rfl : P = Q := placed_one HP5.out hpq
        have hplen := (placed_lt hpq).1
        obtain ⟨a6, c6, hv6⟩ : ∃ a6 c6, v6 = .slice a6 ms.length c6 := by
          rcases hir.2 with ⟨e, h0⟩ | ⟨g, cap, cur, e, _⟩
          · exact ⟨none, 0, by rw [e]; congr 1; omega⟩
          · exact ⟨_, _, by rw [e, hplen]⟩
        subst hv6
        have HIr := Lib.hid hir
        have HN6 := Lib.hid (Blk.keep HN5.out hb6)
        have HB6 := Lib.hid (HB5.out.trans (hb6.mono HB5.out.size))
        have HPl := Lib.hid hplen
        obtain ⟨m, hm⟩ : ∃ m, m = ms.length := ⟨_, rfl⟩
        have HM := Lib.hid hm
        rw [← hm]
        clear hir hpq hb6 hplen hm HGl5 HN5 HP5 HB5 HGl HMo HW
        have hmb : m ≤ 100 := by have := HMl.out; have := HM.out; omega
        go_wp2
        go_loopw [7] (fun s7 wr => ∃ j q : Nat, j ≤ m ∧ s7 = .int .i64 (j : Int) ∧ wr = w6.drewN q) (fun s7 _ => m - (intOf s7).toNat)
        case atStart => exact ⟨0, 0, by omega, rfl, rfl⟩
        case round =>
          obtain ⟨j, q, hj, rfl, rfl⟩ := hrel
          by_cases hlt : j < m
          · have hjp : j < P.length := by have := HPl.out; have := HM.out; omega
            obtain ⟨x, hx⟩ : ∃ x, x = P[j] := ⟨_, rfl⟩
            have hPx : P[j]? = some x := by rw [List.getElem?_eq_getElem hjp, hx]
            have hc5 : w6.cell? ⟨ga, j, none⟩ = some (.int .i64 (x : Int)) := by
              rw [Blk.cell HN6.out]
              rw [List.getElem?_toArray, List.getElem?_map, hPx]
              rfl
            obtain ⟨gb, hgb⟩ : ∃ gb, a6 = some ⟨gb, 0, none⟩ := by
              rcases HIr.out.2 with ⟨e, h0⟩ | ⟨g, cap, cur, e, _⟩
              · omega
              · injection e with e _ _
                exact ⟨g, e⟩
            subst hgb
            have hc6 : w6.cell? ⟨gb, j, none⟩ = some (.int .i64 (x : Int)) := (irow_at (n := m) (by have h := HIr.out; rw [← HM.out] at h; exact h) (by have := HPl.out; have := HM.out; omega) j x hPx).1
            have hi5 := fun W => int_index W ga m m j hlt
            have hi6 := fun W => int_index W gb m c6 j hlt
            clear hx hPx hjp
            go_upto_region 15 with fail
            go_quiet (fail)
            go_wp2
            go_roundw
            case rel => exact ⟨j + 1, _, by omega, by go_num, rfl⟩
            case measure => simp [intOf]; omega
          · go_wp2
            go_ret
            exact ⟨rfl, below_drewN HB6.out _⟩
      · go_wp2_with fail
        refine (rows_any ms u3 wo HGl.out HMo.out (by have := HMl.out; omega)).mono ?_
        rintro e w5 ⟨ga, P, rfl, hnb, hpl, -, hb5⟩
        have HN5 := Lib.hid hnb
        have HP5 := Lib.hid hpl
        have HGl5 := Lib.hid (HGl.out.keep hb5)
        have HB5 := Lib.hid (HW.out.trans (hb5.mono HW.out.size))
        clear hnb hpl hb5
        go_wp2_with fail
        refine (refrows_any ms u3 _ HGl5.out HMo.out (by have := HMl.out; omega)).mono ?_
        rintro e w6 ⟨v6, Q, rfl, hir, hpq, hb6⟩
        obtain rfl : P = Q := placed_one HP5.out hpq
        have hplen := (placed_lt hpq).1
        obtain ⟨a6, c6, hv6⟩ : ∃ a6 c6, v6 = .slice a6 ms.length c6 := by
          rcases hir.2 with ⟨e, h0⟩ | ⟨g, cap, cur, e, _⟩
          · exact ⟨none, 0, by rw [e]; congr 1; omega⟩
          · exact ⟨_, _, by rw [e, hplen]⟩
        subst hv6
        have HIr := Lib.hid hir
        have HN6 := Lib.hid (Blk.keep HN5.out hb6)
        have HB6 := Lib.hid (HB5.out.trans (hb6.mono HB5.out.size))
        have HPl := Lib.hid hplen
        obtain ⟨m, hm⟩ : ∃ m, m = ms.length := ⟨_, rfl⟩
        have HM := Lib.hid hm
        rw [← hm]
        clear hir hpq hb6 hplen hm HGl5 HN5 HP5 HB5 HGl HMo HW
        have hmb : m ≤ 100 := by have := HMl.out; have := HM.out; omega
        go_wp2
        go_loopw [7] (fun s7 wr => ∃ j q : Nat, j ≤ m ∧ s7 = .int .i64 (j : Int) ∧ wr = w6.drewN q) (fun s7 _ => m - (intOf s7).toNat)
        case atStart => exact ⟨0, 0, by omega, rfl, rfl⟩
        case round =>
          obtain ⟨j, q, hj, rfl, rfl⟩ := hrel
          by_cases hlt : j < m
          · have hjp : j < P.length := by have := HPl.out; have := HM.out; omega
            obtain ⟨x, hx⟩ : ∃ x, x = P[j] := ⟨_, rfl⟩
            have hPx : P[j]? = some x := by rw [List.getElem?_eq_getElem hjp, hx]
            have hc5 : w6.cell? ⟨ga, j, none⟩ = some (.int .i64 (x : Int)) := by
              rw [Blk.cell HN6.out]
              rw [List.getElem?_toArray, List.getElem?_map, hPx]
              rfl
            obtain ⟨gb, hgb⟩ : ∃ gb, a6 = some ⟨gb, 0, none⟩ := by
              rcases HIr.out.2 with ⟨e, h0⟩ | ⟨g, cap, cur, e, _⟩
              · omega
              · injection e with e _ _
                exact ⟨g, e⟩
            subst hgb
            have hc6 : w6.cell? ⟨gb, j, none⟩ = some (.int .i64 (x : Int)) := (irow_at (n := m) (by have h := HIr.out; rw [← HM.out] at h; exact h) (by have := HPl.out; have := HM.out; omega) j x hPx).1
            have hi5 := fun W => int_index W ga m m j hlt
            have hi6 := fun W => int_index W gb m c6 j hlt
            clear hx hPx hjp
            go_upto_region 15 with fail
            go_quiet (fail)
            go_wp2
            go_roundw
            case rel => exact ⟨j + 1, _, by omega, by go_num, rfl⟩
            case measure => simp [intOf]; omega
          · go_wp2
            go_ret
            exact ⟨rfl, below_drewN HB6.out _⟩

theorem rowslaw_all (w : World) (a : Option Addr) (n cap : Nat) (rs : List G) (hl : rs.length = n) (hok : ∀ i (h : i < rs.length), rs[i].Ok) (hr : Rls w a rs) :
    Calls Try.prog 4 #[.slice a n cap] w fun e w' => e = .returned (.bool true) ∧ Below w.heap.size w w' := rowslaw_walk a n cap rs w hl hok hr

end Go.Proofs.Ytoabhnbifbdknaa
