/- The reference's with. -/
import Derived.Test.YtabddeoeihlnnaaRefWithout
import Derived.BigQuiet
import Derived.Deep.QuietTactic
namespace Go.Proofs.Ytabddeoeihlnnaa
open Go.RowKit Go.Maps DiskMath

theorem less_before : ∀ (x y : List UInt8), Op.bytesLess x y = bytesBefore x y
  | [], [] => by simp [Op.bytesLess, bytesBefore]
  | _ :: _, [] => by simp [Op.bytesLess, bytesBefore]
  | [], _ :: _ => by simp [Op.bytesLess, bytesBefore]
  | a :: x, b :: y => by
    rw [Op.bytesLess, bytesBefore, less_before x y]

theorem ins_front {α : Type} {x : Nm × α} : ∀ {a b : List (Nm × α)}, (∀ p ∈ a, bytesBefore x.1 p.1 = false) → insA x (a ++ b) = a ++ insA x b
  | [], b, _ => rfl
  | y :: r, b, h => by
    show (if bytesBefore x.1 y.1 then _ else _) = _
    rw [h y (by simp)]
    simp only [Bool.false_eq_true, if_false, List.cons_append]
    rw [← ins_front fun p hp => h p (List.mem_cons_of_mem _ hp)]
    rfl

theorem ins_back {α : Type} {x : Nm × α} : ∀ {a b : List (Nm × α)}, (∃ p ∈ a, bytesBefore x.1 p.1 = true) → insA x (a ++ b) = insA x a ++ b
  | [], b, h => by obtain ⟨p, hp, _⟩ := h; cases hp
  | y :: r, b, h => by
    show (if bytesBefore x.1 y.1 then _ else _) = (if bytesBefore x.1 y.1 then _ else _) ++ b
    cases hy : bytesBefore x.1 y.1 with
    | true => simp
    | false =>
      simp only [Bool.false_eq_true, if_false, List.cons_append]
      rw [← ins_back (a := r) (b := b)]
      · rfl
      · obtain ⟨p, hp, hb⟩ := h
        rcases List.mem_cons.1 hp with rfl | hp
        · rw [hy] at hb; cases hb
        · exact ⟨p, hp, hb⟩

/-- What lies in the new list when i of the rest were looked at. -/
def outA (x : Nm × (Value × List UInt8)) (R : Gf) (i : Nat) (put : Bool) : Gf := if put then insA x (R.take i) else R.take i

/-- Is the file put when i of the rest were looked at? -/
def putAt (x : Nm × (Value × List UInt8)) (R : Gf) (i : Nat) (put : Bool) : Prop := if put then ∃ p ∈ R.take i, bytesBefore x.1 p.1 = true else ∀ p ∈ R.take i, bytesBefore x.1 p.1 = false

theorem out_put {x p : Nm × (Value × List UInt8)} {R : Gf} {i : Nat} (h : R[i]? = some p) (hp : putAt x R i true) : outA x R (i + 1) true = outA x R i true ++ [p] ∧ putAt x R (i + 1) true := by
  unfold putAt at *
  unfold outA
  simp only [if_true] at *
  rw [List.take_add_one, h]
  refine ⟨ins_back hp, ?_⟩
  obtain ⟨q, hq, hb⟩ := hp
  exact ⟨q, List.mem_append_left _ hq, hb⟩

theorem out_now {x p : Nm × (Value × List UInt8)} {R : Gf} {i : Nat} (h : R[i]? = some p) (hp : putAt x R i false) (hb : bytesBefore x.1 p.1 = true) : outA x R (i + 1) true = outA x R i false ++ [x] ++ [p] ∧ putAt x R (i + 1) true := by
  unfold putAt at *
  unfold outA
  simp only [Bool.false_eq_true, if_false, if_true] at *
  rw [List.take_add_one, h]
  refine ⟨?_, p, by simp, hb⟩
  rw [ins_front hp]
  show _ ++ (if bytesBefore x.1 p.1 then _ else _) = _
  rw [hb]
  simp

theorem out_not {x p : Nm × (Value × List UInt8)} {R : Gf} {i : Nat} (h : R[i]? = some p) (hp : putAt x R i false) (hb : bytesBefore x.1 p.1 = false) : outA x R (i + 1) false = outA x R i false ++ [p] ∧ putAt x R (i + 1) false := by
  unfold putAt at *
  unfold outA
  simp only [Bool.false_eq_true, if_false] at *
  rw [List.take_add_one, h]
  refine ⟨rfl, fun q hq => ?_⟩
  rcases List.mem_append.1 hq with hq | hq
  · exact hp q hq
  · simp at hq
    rw [hq]
    exact hb

theorem out_end {x : Nm × (Value × List UInt8)} {R : Gf} (put : Bool) (hp : putAt x R R.length put) : insA x R = if put then outA x R R.length put else outA x R R.length put ++ [x] := by
  unfold putAt at hp
  unfold outA
  rw [List.take_length] at *
  cases put with
  | true => rfl
  | false =>
    simp only [Bool.false_eq_true, if_false] at *
    have h := ins_front (x := x) (a := R) (b := []) hp
    simpa [insA] using h

theorem out_length (x : Nm × (Value × List UInt8)) (R : Gf) (i : Nat) (put : Bool) : (outA x R i put).length ≤ R.length + 1 := by
  unfold outA
  split
  · rw [length_ins, List.length_take]; omega
  · rw [List.length_take]; omega

theorem Made.drewN {w W : World} {v : Value} {G : Gf} (h : Made w v G W) (q : Nat) : Made w v G (W.drewN q) := ⟨h.row, h.new, h.bel.os, h.bel.tape, h.bel.output, h.bel.size, h.bel.block⟩

/-- A list that was made and has got one more. -/
theorem Made.more {w W W' : World} {v v' : Value} {G : Gf} {p : Nm × (Value × List UInt8)} (h : Made w v G W) (hrow : W'.ownsRow 0 71 2 v' (G.length + 1) (cellsF G ++ [nm p.1, p.2.1])) (ho : OnlyS (fun k => v.ownBlock = some k) W W') (hn : Near W v v') : Made w v' (G ++ [p]) W' :=
  ⟨by rw [cellsF_snoc, List.length_append]; exact hrow, near_new h.bel.size h.new hn, only_own h.bel h.new ho⟩

set_option maxHeartbeats 1000000 in
set_option maxRecDepth 20000 in
theorem with_any {w : World} {v : Value} {G : Gf} {n : Nm} {xa : Option Addr} {xn xc : Nat} {t : List UInt8} (h : Fls w v G) (hl : G.length ≤ 50000) :
    Calls Try.prog 58 #[v, .agg #[nm n, .slice xa xn xc]] w fun e w' => ∃ u, e = .returned u ∧ Made w u (putA n (.slice xa xn xc, t) G) w' := by
  obtain ⟨va, vc, hv⟩ := h.slice
  subst hv
  obtain ⟨N, hN⟩ : ∃ N, nm n = .string N := ⟨_, rfl⟩
  have hb1 : Below w.heap.size w (w.alloc (.cells #[nm n, .slice xa xn xc] 71)) := (Below.refl _ _).alloc (Nat.le_refl _) _
  have HBx : Hid (Blk (w.alloc (.cells #[nm n, .slice xa xn xc] 71)) w.heap.size 71 #[.string N, .slice xa xn xc]) := Lib.hid (by rw [← hN]; exact Blk.new w _ _)
  have HWo := Lib.hid (without_any (n := n) (h.below hb1) (by omega))
  have HF := Lib.hid (h.below hb1)
  have HB1 := Lib.hid hb1
  have HN := Lib.hid hN
  rw [hN] at HBx HWo HF HB1 ⊢
  obtain ⟨L, hL⟩ : ∃ L, L = G.length := ⟨_, rfl⟩
  rw [← hL] at HWo HF ⊢
  have HL := Lib.hid hL
  obtain ⟨R, hR⟩ : ∃ R, R = delA n G := ⟨_, rfl⟩
  rw [← hR] at HWo
  have HR := Lib.hid hR
  have hRl : R.length ≤ 50000 := by rw [hR]; exact Nat.le_trans length_del hl
  have hb0 : w.heap.size < (w.alloc (.cells #[.string N, .slice xa xn xc] 71)).heap.size := by simp
  have HB0 := Lib.hid hb0
  clear h hb1 hN hl hL hR hb0
  go_enter Try.func58, Try.ntmps58
  go_wp2_with fail
  refine HWo.out.mono ?_
  rintro e w1 ⟨u, rfl, hm⟩
  obtain ⟨ra, rc, rfl⟩ := fls_row_slice hm.row
  have hfr : Fls w1 (.slice ra R.length rc) R := ⟨hm.row, fun p hp => by
    have hf := HF.out.below hm.bel
    rw [HL.out] at hf
    refine hf.text p ?_
    rw [HR.out] at hp
    exact (mem_del.1 hp).1⟩
  obtain ⟨LR, hLR⟩ : ∃ LR, LR = R.length := ⟨_, rfl⟩
  rw [← hLR] at hfr hRl ⊢
  have HLR := Lib.hid hLR
  have hbx : Blk w1 w.heap.size 71 #[.string N, .slice xa xn xc] := by
    unfold Blk
    rw [hm.bel.block _ HB0.out]
    exact HBx.out
  have HFr := Lib.hid hfr
  have HBx1 := Lib.hid hbx
  have HBel := Lib.hid ((HB1.out.trans (hm.bel.mono HB1.out.size)))
  obtain ⟨x, hx⟩ : ∃ x : Nm × (Value × List UInt8), x = (n, (.slice xa xn xc, t)) := ⟨_, rfl⟩
  have HX := Lib.hid hx
  have hbs : w.heap.size < w1.heap.size := Nat.lt_of_lt_of_le HB0.out hm.bel.size
  obtain ⟨b0, hb0⟩ : ∃ b0, b0 = w.heap.size := ⟨_, rfl⟩
  rw [← hb0] at HBx1 hbs ⊢
  clear hfr hbx hm HWo HBx HF HB0 hLR hx hb0
  have HBs := Lib.hid hbs
  clear hbs
  go_wp2
  go_loopw [5, 6, 8] (fun s5 s6 s8 wr => ∃ (i : Nat) (put : Bool), i ≤ LR ∧ s8 = .int .i64 i ∧ s6 = .bool put ∧ Hid (Made w1 s5 (outA x R i put) wr) ∧ Hid (putAt x R i put)) (fun _ _ s8 _ => LR - (intOf s8).toNat)
  case atStart => exact ⟨0, false, Nat.zero_le _, rfl, rfl, Lib.hid ⟨World.ownsRow_nil _ _ _ _, fun k hk => by simp [Value.ownBlock] at hk, Below.refl _ _⟩, Lib.hid fun p hp => by simp at hp⟩
  case round =>
    obtain ⟨i, put, hi, rfl, rfl, HM, HP⟩ := hrel
    by_cases hlt : i < LR
    · have i0 : (0 : Int) ≤ (i : Int) := Int.natCast_nonneg _
      have i1 : (i : Int) < (LR : Int) := by omega
      obtain ⟨p, hp⟩ : ∃ p, R[i]? = some p := ⟨R[i]'(by have := HLR.out; omega), List.getElem?_eq_getElem _⟩
      have hf := HFr.out
      rw [HLR.out] at hf
      obtain ⟨g, cap, e, hg, c0, c1⟩ := hf.cells i p hp
      simp at e
      obtain ⟨rfl, rfl⟩ := e
      have hidx : ∀ W, (Instr.indexAt 62 (.slice (some ⟨g, 0, none⟩) LR rc) (.int .i64 (i : Int))).run Try.prog W = .ok (.pointer (some ⟨g, i * 2, none⟩)) W := fun W => files_index W g LR rc i hlt
      obtain ⟨j, hj⟩ : ∃ j, j = i * 2 := ⟨_, rfl⟩
      rw [← hj] at c0 c1 hidx
      obtain ⟨M, hM⟩ : ∃ M, nm p.1 = .string M := ⟨_, rfl⟩
      rw [hM] at c0
      obtain ⟨ta, tc, hsl⟩ := slice_of_row (hf.text p (List.mem_of_getElem? hp))
      rw [hsl] at c1
      obtain ⟨k, hk⟩ : ∃ k, k = p.2.2.length := ⟨_, rfl⟩
      rw [← hk] at c1 hsl
      have HCel : Hid ([nm p.1, p.2.1] = [Value.string M, .slice ta k tc]) := Lib.hid (by rw [hM, hsl])
      have HCx : Hid ([nm x.1, x.2.1] = [Value.string N, .slice xa xn xc]) := Lib.hid (by rw [HX.out, HN.out])
      have HC0 : Hid (∀ W, Below w1.heap.size w1 W → W.cell? ⟨g, j, none⟩ = some (.string M) ∧ W.cell? ⟨g, j + 1, none⟩ = some (.slice ta k tc)) := Lib.hid fun W hb => ⟨by rw [hb.cell (p := ⟨g, j, none⟩) hg]; exact c0, by rw [hb.cell (p := ⟨g, j + 1, none⟩) hg]; exact c1⟩
      have HD0 : Hid (∀ W, Below w1.heap.size w1 W → W.cell? ⟨b0, 0, none⟩ = some (.string N) ∧ W.cell? ⟨b0, 1, none⟩ = some (.slice xa xn xc)) := Lib.hid fun W hb => ⟨by rw [hb.cell (p := ⟨b0, 0, none⟩) HBs.out, Blk.cell HBx1.out]; rfl, by rw [hb.cell (p := ⟨b0, 1, none⟩) HBs.out, Blk.cell HBx1.out]; rfl⟩
      have c0 : ∀ q, (wr.drewN q).cell? ⟨g, j, none⟩ = some (.string M) := fun q => (HC0.out _ (HM.out.drewN q).bel).1
      have c1 : ∀ q, (wr.drewN q).cell? ⟨g, j + 1, none⟩ = some (.slice ta k tc) := fun q => (HC0.out _ (HM.out.drewN q).bel).2
      have d0 : ∀ q, (wr.drewN q).cell? ⟨b0, 0, none⟩ = some (.string N) := fun q => (HD0.out _ (HM.out.drewN q).bel).1
      have d1 : ∀ q, (wr.drewN q).cell? ⟨b0, 1, none⟩ = some (.slice xa xn xc) := fun q => (HD0.out _ (HM.out.drewN q).bel).2
      have hol : (outA x R i put).length ≤ 60000 := Nat.le_trans (out_length x R i put) (by have := HLR.out; omega)
      have HOl := Lib.hid hol
      have HPi := Lib.hid hp
      clear hf hj hM hsl hk hol hp
      cases put with
      | true =>
        have HN1 := Lib.hid (out_put HPi.out HP.out)
        have A1 : ∀ q, _ := fun q => Lib.hid (add_file (((HM.out.drewN q).alloc (.cells #[.string M, .slice ta k tc] 71)).row) (by have := HOl.out; omega) (x := (wr.drewN q).heap.size) (Blk.new (wr.drewN q) 71 #[.string M, .slice ta k tc]) rfl (one_file _ _ _ _))
        go_wp2_with fail
        go_quiet (fail)
        go_wp2_with (at_builtin; refine wpList_append_by rfl _ _ 62 rfl _ _ rfl rfl _ (A1 _).out ?_; rintro v' w2 ⟨q1, -, q3, q4⟩; (have Q1 := Lib.hid q1); (have Q3 := Lib.hid q3); (have Q4 := Lib.hid q4); clear q1 q3 q4)
        go_wp2
        go_roundw
        case rel =>
          refine ⟨i + 1, true, by omega, by go_num, rfl, Lib.hid ?_, Lib.hid HN1.out.2⟩
          rw [HN1.out.1]
          refine ((HM.out.drewN _).alloc _).more ?_ Q3.out Q4.out
          rw [HCel.out]
          exact Q1.out
        case measure => simp [intOf]; omega
      | false =>
        have hle : Op.bytesLess N.toList M.toList = bytesBefore x.1 p.1 := by
          have h := HCel.out
          have h2 := HCx.out
          simp only [List.cons.injEq] at h h2
          rw [nm_list h.1, nm_list h2.1, less_before]
        by_cases hb : bytesBefore x.1 p.1 = true
        · rw [hb] at hle
          have HN1 := Lib.hid (out_now HPi.out HP.out hb)
          have A1 : ∀ q, _ := fun q => Lib.hid (add_file (((HM.out.drewN q).alloc (.cells #[.string N, .slice xa xn xc] 71)).row) (by have := HOl.out; omega) (x := (wr.drewN q).heap.size) (Blk.new (wr.drewN q) 71 #[.string N, .slice xa xn xc]) rfl (one_file _ _ _ _))
          clear hb
          go_wp2_with fail
          go_quiet (fail)
          go_wp2_with (first | (at_builtin; refine wpList_append_by rfl _ _ 62 rfl _ _ rfl rfl _ (A1 _).out ?_; rintro v' w2 ⟨q1, -, q3, q4⟩; (have HM2 := Lib.hid (((HM.out.drewN _).alloc _).more (p := x) (by rw [HCx.out]; exact q1) q3 q4)); (have e0 := (HC0.out _ HM2.out.bel).1); (have e1 := (HC0.out _ HM2.out.bel).2); (have A2 := Lib.hid (add_file ((HM2.out.alloc (.cells #[.string M, .slice ta k tc] 71)).row) (by rw [List.length_append]; have := HOl.out; simp; omega) (x := w2.heap.size) (Blk.new w2 71 #[.string M, .slice ta k tc]) rfl (one_file _ _ _ _))); clear q1 q3 q4) | (at_builtin; refine wpList_append_by rfl _ _ 62 rfl _ _ rfl rfl _ A2.out ?_; rintro v' w3 ⟨q1, -, q3, q4⟩; (have Q1 := Lib.hid q1); (have Q3 := Lib.hid q3); (have Q4 := Lib.hid q4); clear q1 q3 q4))
          go_wp2
          go_roundw
          case rel =>
            refine ⟨i + 1, true, by omega, by go_num, rfl, Lib.hid ?_, Lib.hid HN1.out.2⟩
            rw [HN1.out.1]
            refine (HM2.out.alloc _).more ?_ Q3.out Q4.out
            rw [HCel.out]
            exact Q1.out
          case measure => simp [intOf]; omega
        · have hb : bytesBefore x.1 p.1 = false := by simpa using hb
          rw [hb] at hle
          have HN1 := Lib.hid (out_not HPi.out HP.out hb)
          have A1 : ∀ q, _ := fun q => Lib.hid (add_file (((HM.out.drewN q).alloc (.cells #[.string M, .slice ta k tc] 71)).row) (by have := HOl.out; omega) (x := (wr.drewN q).heap.size) (Blk.new (wr.drewN q) 71 #[.string M, .slice ta k tc]) rfl (one_file _ _ _ _))
          clear hb
          go_wp2_with fail
          go_quiet (fail)
          go_wp2_with (at_builtin; refine wpList_append_by rfl _ _ 62 rfl _ _ rfl rfl _ (A1 _).out ?_; rintro v' w2 ⟨q1, -, q3, q4⟩; (have Q1 := Lib.hid q1); (have Q3 := Lib.hid q3); (have Q4 := Lib.hid q4); clear q1 q3 q4)
          go_wp2
          go_roundw
          case rel =>
            refine ⟨i + 1, false, by omega, by go_num, rfl, Lib.hid ?_, Lib.hid HN1.out.2⟩
            rw [HN1.out.1]
            refine ((HM.out.drewN _).alloc _).more ?_ Q3.out Q4.out
            rw [HCel.out]
            exact Q1.out
          case measure => simp [intOf]; omega
    · obtain rfl : i = LR := by omega
      have hm := HM.out
      have hp := HP.out
      rw [HLR.out] at hm hp
      have he := out_end put hp
      have hbel1 : Below w.heap.size w w1 := HBel.out
      have hres : ∀ (u : Value) (W : World), Made w1 u (insA x R) W → Made w u (putA n (.slice xa xn xc, t) G) W := fun u W h => by
        have e : putA n (.slice xa xn xc, t) G = insA x R := by
          unfold putA
          rw [HX.out, HR.out]
        rw [e]
        exact ⟨h.row, fun k hk => Nat.le_trans hbel1.size (h.new k hk), hbel1.trans (h.bel.mono hbel1.size)⟩
      have HRes := Lib.hid hres
      have hol : (outA x R R.length put).length ≤ 60000 := Nat.le_trans (out_length x R _ put) (by have := HLR.out; omega)
      have d0 : wr.cell? ⟨b0, 0, none⟩ = some (.string N) := by rw [hm.bel.cell (p := ⟨b0, 0, none⟩) HBs.out, Blk.cell HBx1.out]; rfl
      have d1 : wr.cell? ⟨b0, 1, none⟩ = some (.slice xa xn xc) := by rw [hm.bel.cell (p := ⟨b0, 1, none⟩) HBs.out, Blk.cell HBx1.out]; rfl
      have HCx : Hid ([nm x.1, x.2.1] = [Value.string N, .slice xa xn xc]) := Lib.hid (by rw [HX.out, HN.out])
      have HM1 := Lib.hid hm
      cases put with
      | true =>
        simp only [if_true] at he
        rw [← he] at hm
        obtain ⟨la, lc, hu⟩ := fls_row_slice hm.row
        subst hu
        have HE := Lib.hid (hres _ _ hm)
        clear hm hp he hres hbel1 hol HM HM1 HRes
        go_wp2
        go_ret
        exact ⟨_, rfl, HE.out⟩
      | false =>
        simp only [Bool.false_eq_true, if_false] at he
        have A1 := Lib.hid (add_file ((hm.alloc (.cells #[.string N, .slice xa xn xc] 71)).row) (by omega) (x := wr.heap.size) (Blk.new wr 71 #[.string N, .slice xa xn xc]) rfl (one_file _ _ _ _))
        have HE := Lib.hid he
        clear hm hp he hres hbel1 hol HM
        go_wp2_with (at_builtin; refine wpList_append_by rfl _ _ 62 rfl _ _ rfl rfl _ A1.out ?_; rintro v' w2 ⟨q1, -, q3, q4⟩; (have HM2 := Lib.hid ((HM1.out.alloc _).more (p := x) (by rw [HCx.out]; exact q1) q3 q4)); clear q1 q3 q4)
        obtain ⟨la, lc, hu⟩ := fls_row_slice HM2.out.row
        subst hu
        go_wp2
        go_ret
        refine ⟨_, rfl, HRes.out _ _ ?_⟩
        rw [HE.out]
        exact HM2.out
end Go.Proofs.Ytabddeoeihlnnaa
