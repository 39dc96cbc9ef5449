/- cmp.Or and gauge's 'ahead': how a row stands to another one. -/
import Derived.Test.YtoabhnbifbdknaaGaugeKit
import Derived.Test.YtoabhnbifbdknaaEdgeSame
import Derived.Sort.Grow
import Derived.Deep.Cut
namespace Go.Proofs.Ytoabhnbifbdknaa
open Go.RowKit EdgeMath Reg

def orL (a b c : Int) : Int := if a ≠ 0 then a else if b ≠ 0 then b else c

set_option maxRecDepth 100000 in
theorem or_any (g : Nat) (a b c : Int) (w : World) (h0 : w.cell? ⟨g, 0, none⟩ = some (.int .i64 a)) (h1 : w.cell? ⟨g, 1, none⟩ = some (.int .i64 b)) (h2 : w.cell? ⟨g, 2, none⟩ = some (.int .i64 c)) :
    Calls Try.prog 54 #[.slice (some ⟨g, 0, none⟩) 3 3] w fun e w' => e = .returned (.int .i64 (orL a b c)) ∧ w = w' := by
  have H0 := Lib.hid h0
  have H1 := Lib.hid h1
  have H2 := Lib.hid h2
  clear h0 h1 h2
  go_enter Try.func54, Try.ntmps54
  go_wp2
  go_loop [8] (fun s8 => ∃ i : Nat, i ≤ 3 ∧ s8 = .int .i64 (i : Int) ∧ (0 < i → a = 0) ∧ (1 < i → b = 0) ∧ (2 < i → c = 0)) (fun s8 => 3 - (intOf s8).toNat)
  case atStart => exact ⟨0, by omega, rfl, fun h => by omega, fun h => by omega, fun h => by omega⟩
  case round =>
    obtain ⟨i, hi, rfl, ha, hb, hc⟩ := hrel
    have HA := Lib.hid ha
    have HB := Lib.hid hb
    have HC := Lib.hid hc
    clear ha hb hc
    by_cases hlt : i < 3
    · obtain rfl | rfl | rfl : i = 0 ∨ i = 1 ∨ i = 2 := by omega
      · have hcell := H0.out
        by_cases hz : a = 0
        · have hne : (a != 0) = false := by simp [hz]
          have HZ := Lib.hid hz
          clear hz
          go_wp2
          go_round
          case rel => exact ⟨1, by omega, by go_num, fun _ => HZ.out, fun h => by omega, fun h => by omega⟩
          case measure => simp [intOf]
        · have hne : (a != 0) = true := by simp [hz]
          have HZ := Lib.hid hz
          clear hz
          go_wp2
          go_ret
          exact ⟨by unfold orL; rw [if_pos HZ.out]; rfl, rfl⟩
      · have hcell := H1.out
        have hz0 := HA.out (by omega)
        by_cases hz : b = 0
        · have hne : (b != 0) = false := by simp [hz]
          have HZ := Lib.hid hz
          have HZ0 := Lib.hid hz0
          clear hz hz0
          go_wp2
          go_round
          case rel => exact ⟨2, by omega, by go_num, fun _ => HZ0.out, fun _ => HZ.out, fun h => by omega⟩
          case measure => simp [intOf]
        · have hne : (b != 0) = true := by simp [hz]
          have HZ := Lib.hid hz
          have HZ0 := Lib.hid hz0
          clear hz hz0
          go_wp2
          go_ret
          exact ⟨by unfold orL; rw [if_neg (fun h => h HZ0.out), if_pos HZ.out]; rfl, rfl⟩
      · have hcell := H2.out
        have hz0 := HA.out (by omega)
        have hz1 := HB.out (by omega)
        by_cases hz : c = 0
        · have hne : (c != 0) = false := by simp [hz]
          have HZ := Lib.hid hz
          have HZ0 := Lib.hid hz0
          have HZ1 := Lib.hid hz1
          clear hz hz0 hz1
          go_wp2
          go_round
          case rel => exact ⟨3, by omega, by go_num, fun _ => HZ0.out, fun _ => HZ1.out, fun _ => HZ.out⟩
          case measure => simp [intOf]
        · have hne : (c != 0) = true := by simp [hz]
          have HZ0 := Lib.hid hz0
          have HZ1 := Lib.hid hz1
          clear hz hz0 hz1
          go_wp2
          go_ret
          exact ⟨by unfold orL; rw [if_neg (fun h => h HZ0.out), if_neg (fun h => h HZ1.out)]; rfl, rfl⟩
    · obtain rfl : i = 3 := by omega
      go_wp2
      go_ret
      exact ⟨by unfold orL; rw [if_neg (fun h => h (HA.out (by omega))), if_neg (fun h => h (HB.out (by omega))), HC.out (by omega)]; rfl, rfl⟩

section
variable {P : Program} {ops : Array Oper} {tab : List (List Nat)} {fin : List Tmp} {K : World → Prop} {f : Tmp → Fact} {i : Nat} {o : Oper}

/-- A call that leaves the memory as it was. -/
theorem ask_call_still (hg : guardOk ops f o) (n : FuncId) (ss : Array Operand) (ts : Array TypeId) (fd : Fact)
    (ho : o.op = .call { callee := .value (.func n), args := ss, argTypes := ts }) (hfn : ((P.funcs[n]?).map fun fn => (fn.name == "runtime.NumGoroutine", fn.body.isNone)) = some (false, false)) (hd : ∀ k, o.dst = some k → f k = fd)
    (h : ∀ x W, K W → Told ops f o x W → Calls P n (ss.toList.map (evalBy x)).toArray W fun e W' => ∃ v, e = .returned v ∧ fd.holds v W ∧ W = W') : Asked P ops tab fin K f i o := by
  intro x W hW hk
  refine ⟨guard_ok hg hk, ?_⟩
  have em : ss.map (evalBy x) = (ss.toList.map (evalBy x)).toArray := by
    apply Array.toList_inj.1
    simp
  refine gives_enter (f := n) (args := (ss.toList.map (evalBy x)).toArray) (w' := W) ?_ ((h x W hW hk).mono fun e W' ⟨v, h1, h2, h3⟩ => ⟨v, h1, by rw [← h3]; exact hW, fun k u _ _ hu => by rw [← h3]; exact hu, fun k hk => by rw [← h3]; show (f k).holds _ _; rw [hd k hk]; exact h2⟩)
  obtain ⟨fn, hf, hp⟩ := Option.map_eq_some_iff.1 hfn
  simp only [Prod.mk.injEq] at hp
  have e : execOp (evalBy x) o = callFunc n (#[] ++ ss.map (evalBy x) ++ #[]) := by
    obtain ⟨dst, op, type, pos, after, guard⟩ := o
    simp only at ho
    subst ho
    rfl
  rw [e, em]
  have h1 : fn.name ≠ "runtime.NumGoroutine" := by simpa using hp.1
  have h2 : fn.body ≠ none := by intro hh; have := hp.2; rw [hh] at this; cases this
  simp [callFunc, hf, h1, h2]

/-- An operation that makes a block. -/
theorem ask_makes (hK : ∀ W o, K W → K (W.alloc o)) (hg : guardOk ops f o) (fd : Fact) (hd : ∀ k, o.dst = some k → f k = fd)
    (h : ∀ x W, K W → Told ops f o x W → ∃ v ob, (execOp (evalBy x) o).run P W = .ok (.value v) (W.alloc ob) ∧ fd.holds v (W.alloc ob)) : Asked P ops tab fin K f i o := by
  intro x W hW hk
  obtain ⟨v, ob, h1, h2⟩ := h x W hW hk
  exact ⟨guard_ok hg hk, gives_value h1 ⟨hK W ob hW, fun k u _ _ hu => Fact.below hu ((Below.refl _ _).alloc (Nat.le_refl _) _), fun k hk => by show (f k).holds _ _; rw [hd k hk]; exact h2⟩⟩
end

theorem load_int (W : World) (p : Addr) (v : Value) (h : W.cell? p = some v) : (Instr.loadAt 3 (.pointer (some p))).run Try.prog W = .ok v W := by
  have hagg : (isAgg 3).run Try.prog W = .ok false W := by kernel_rfl
  simp [Instr.loadAt, Instr.sureAddr, loadVar, Sem.run_bind, hagg, h]

/-- What a world is that only grew. -/
theorem grown_form {w w' : World} (h : Below w.heap.size w w') (hd : w.drawn ≤ w'.drawn) : ∃ q os', w' = Go.Sort.grow (w.drewN q) os' := by
  obtain ⟨h1, h2, h3, h4, h5⟩ := h
  refine ⟨w'.drawn - w.drawn, w'.heap.extract w.heap.size w'.heap.size, ?_⟩
  obtain ⟨hp, tp, dr, os, out⟩ := w
  obtain ⟨hp', tp', dr', os', out'⟩ := w'
  simp only at h1 h2 h3 h4 h5 hd
  subst h1 h2 h3
  unfold Go.Sort.grow World.drewN
  simp only [World.mk.injEq, true_and, and_true]
  refine ⟨?_, by omega⟩
  apply Array.ext
  · simp; omega
  · intro i hi1 hi2
    by_cases hi : i < hp.size
    · have := h5 i hi
      rw [Array.getElem?_eq_getElem hi1, Array.getElem?_eq_getElem hi] at this
      rw [Array.getElem_append_left hi]
      exact Option.some.inj this
    · rw [Array.getElem_append_right (by omega)]
      simp only [Array.getElem_extract]
      congr 1
      omega

def b64 (n : Nat) : Nat := n % 18446744073709551616
theorem b64_lt (n : Nat) : b64 n < 18446744073709551616 := Nat.mod_lt _ (by decide)

/-- A row: its place, its mean, its spread. -/
def encR (x : Nat × Nat × Nat) : List Value := [.int .i64 (x.1 : Int), .float .f64 (b64 x.2.1), .float .f64 (b64 x.2.2)]
def cfR (x y : Nat × Nat × Nat) : Int := orL (ord (rk (b64 x.2.1)) (rk (b64 y.2.1))) (ord (rk (b64 x.2.2)) (rk (b64 y.2.2))) (ord (x.1 : Int) (y.1 : Int))

def OrAt (g : Value) (W : World) (a b c : Int) : Prop := ∃ B, g = .slice (some ⟨B, 0, none⟩) 3 3 ∧ W.cell? ⟨B, 0, none⟩ = some (.int .i64 a) ∧ W.cell? ⟨B, 1, none⟩ = some (.int .i64 b) ∧ W.cell? ⟨B, 2, none⟩ = some (.int .i64 c)

theorem OrAt.keep {g : Value} {W W' : World} {a b c : Int} (h : OrAt g W a b c) (hb : Below W.heap.size W W') : OrAt g W' a b c := by
  obtain ⟨B, e, h0, h1, h2⟩ := h
  exact ⟨B, e, by rw [hb.cell (World.block_lt_of_cell? W _ h0)]; exact h0, by rw [hb.cell (World.block_lt_of_cell? W _ h1)]; exact h1, by rw [hb.cell (World.block_lt_of_cell? W _ h2)]; exact h2⟩

set_option maxRecDepth 100000 in
set_option maxHeartbeats 1000000 in
theorem ahead_any (x y : Nat × Nat × Nat) (w : World) : Calls Try.prog 34 #[.agg (encR x).toArray, .agg (encR y).toArray] w fun e w' => e = .returned (.int .i64 (cfR x y)) ∧ ∃ q os', w' = Go.Sort.grow (w.drewN q) os' := by
  obtain ⟨p, m, s⟩ := x
  obtain ⟨p', m', s'⟩ := y
  obtain ⟨M, hM⟩ : ∃ M, M = b64 m := ⟨_, rfl⟩
  obtain ⟨S, hS⟩ : ∃ M, M = b64 s := ⟨_, rfl⟩
  obtain ⟨M', hM'⟩ : ∃ M, M = b64 m' := ⟨_, rfl⟩
  obtain ⟨S', hS'⟩ : ∃ M, M = b64 s' := ⟨_, rfl⟩
  have hMb : M < 18446744073709551616 := by rw [hM]; exact b64_lt _
  have hSb : S < 18446744073709551616 := by rw [hS]; exact b64_lt _
  have hMb' : M' < 18446744073709551616 := by rw [hM']; exact b64_lt _
  have hSb' : S' < 18446744073709551616 := by rw [hS']; exact b64_lt _
  have hcf : cfR (p, m, s) (p', m', s') = orL (ord (rk M) (rk M')) (ord (rk S) (rk S')) (ord (p : Int) (p' : Int)) := by rw [hM, hS, hM', hS']; rfl
  rw [hcf]
  show Calls Try.prog 34 #[.agg #[.int .i64 (p : Int), .float .f64 (b64 m), .float .f64 (b64 s)], .agg #[.int .i64 (p' : Int), .float .f64 (b64 m'), .float .f64 (b64 s')]] w _
  rw [← hM, ← hS, ← hM', ← hS']
  obtain ⟨o1, ho1⟩ : ∃ o, o = ord (rk M) (rk M') := ⟨_, rfl⟩
  obtain ⟨o2, ho2⟩ : ∃ o, o = ord (rk S) (rk S') := ⟨_, rfl⟩
  obtain ⟨o3, ho3⟩ : ∃ o, o = ord (p : Int) (p' : Int) := ⟨_, rfl⟩
  rw [← ho1, ← ho2, ← ho3]
  have HO1 := Lib.hid ho1
  have HO2 := Lib.hid ho2
  have HO3 := Lib.hid ho3
  clear hM hS hM' hS' hcf ho1 ho2 ho3
  go_enter Try.func34, Try.ntmps34
  go_upto_region 1 with fail
  obtain ⟨W2, hW2⟩ : ∃ W, W = (w.alloc (.cells #[.int .i64 (p : Int), .float .f64 M, .float .f64 S] 63)).alloc (.cells #[.int .i64 (p' : Int), .float .f64 M', .float .f64 S'] 63) := ⟨_, rfl⟩
  refine world_cut (fun W => W = W2) (by rw [hW2]) ?_
  have hb2 : Below w.heap.size w W2 := by rw [hW2]; exact ((Below.refl _ _).alloc (Nat.le_refl _) _).alloc (by simp) _
  have hd2 : W2.drawn = w.drawn := by rw [hW2]; rfl
  have hk1 : Blk W2 w.heap.size 63 #[.int .i64 (p : Int), .float .f64 M, .float .f64 S] := by rw [hW2]; exact Blk.alloc (Blk.new w _ _) _
  have hk2 : Blk W2 (w.heap.size + 1) 63 #[.int .i64 (p' : Int), .float .f64 M', .float .f64 S'] := by rw [hW2]; exact Blk.newAt _ _ _ _ _ (by simp) rfl
  have HB2 := Lib.hid hb2
  have HD2 := Lib.hid hd2
  have HK1 := Lib.hid hk1
  have HK2 := Lib.hid hk2
  clear hb2 hd2 hk1 hk2 hW2
  intro W3 hW3
  rw [hW3]
  clear hW3 W3
  have hcell1 : ∀ W i v, Below W2.heap.size W2 W → (#[Value.int .i64 (p : Int), .float .f64 M, .float .f64 S] : Array Value)[i]? = some v → W.cell? ⟨w.heap.size, i, none⟩ = some v := fun W i v h hv => by rw [Blk.cell (HK1.out.keep h), hv]
  have hcell2 : ∀ W i v, Below W2.heap.size W2 W → (#[Value.int .i64 (p' : Int), .float .f64 M', .float .f64 S'] : Array Value)[i]? = some v → W.cell? ⟨w.heap.size + 1, i, none⟩ = some v := fun W i v h hv => by rw [Blk.cell (HK2.out.keep h), hv]
  refine region_by [(5, .is (.pointer (some ⟨w.heap.size, 1, none⟩))), (6, .is (.float .f64 M)), (7, .is (.pointer (some ⟨w.heap.size + 1, 1, none⟩))), (8, .is (.float .f64 M')), (9, .is (.int .i64 o1)), (10, .is (.pointer (some ⟨w.heap.size, 2, none⟩))), (11, .is (.float .f64 S)), (12, .is (.pointer (some ⟨w.heap.size + 1, 2, none⟩))), (13, .is (.float .f64 S')), (14, .is (.int .i64 o2)), (15, .is (.pointer (some ⟨w.heap.size, 0, none⟩))), (16, .is (.int .i64 (p : Int))), (17, .is (.pointer (some ⟨w.heap.size + 1, 0, none⟩))), (18, .is (.int .i64 (p' : Int))), (19, .is (.int .i64 o3)), (20, .sat (fun v W => OrAt v W o1 o2 o3) (fun _ _ _ h hb => h.keep hb)), (21, .is (.int .i64 (orL o1 o2 o3))), (4, .is (.int .i64 (orL o1 o2 o3)))] [4] (fun W => Below W2.heap.size W2 W ∧ W2.drawn ≤ W.drawn) (by kernel_rfl) (by kernel_rfl) (by kernel_rfl) (by kernel_rfl) (by kernel_rfl) ⟨(Below.refl _ _).drew, Nat.le_succ _⟩ ?_ ?_
  · refine ⟨?c0, ?c1, ?c2, ?c3, ?c4, ?c5, ?c6, ?c7, ?c8, ?c9, ?c10, ?c11, ?c12, ?c13, ?c14, ?c15, ?c16, ?c17, trivial⟩
    case c0 => exact ask_field (guard_none rfl) _ (.tmp 2) 1 (.pointer (some ⟨w.heap.size, 0, none⟩)) (.pointer (some ⟨w.heap.size, 1, none⟩)) rfl rfl (by intro k hk; cases hk; rfl) (fun W => by kernel_rfl)
    case c1 => exact ask_load (guard_none rfl) _ (.tmp 5) (.pointer (some ⟨w.heap.size, 1, none⟩)) (.float .f64 M) rfl rfl (by intro k hk; cases hk; rfl) (fun W hW => load_flt W _ _ (hcell1 W 1 _ hW.1 rfl))
    case c2 => exact ask_field (guard_none rfl) _ (.tmp 3) 1 (.pointer (some ⟨w.heap.size + 1, 0, none⟩)) (.pointer (some ⟨w.heap.size + 1, 1, none⟩)) rfl rfl (by intro k hk; cases hk; rfl) (fun W => by kernel_rfl)
    case c3 => exact ask_load (guard_none rfl) _ (.tmp 7) (.pointer (some ⟨w.heap.size + 1, 1, none⟩)) (.float .f64 M') rfl rfl (by intro k hk; cases hk; rfl) (fun W hW => load_flt W _ _ (hcell2 W 1 _ hW.1 rfl))
    case c4 => exact ask_call_still (guard_none rfl) _ _ _ (.is (.int .i64 o1)) rfl (by kernel_rfl) (by intro k hk; cases hk; rfl) (fun x W hW hk => by
      have e6 : x 6 = .float .f64 M := hk 6 rfl
      have e8 : x 8 = .float .f64 M' := hk 8 rfl
      show Calls _ _ #[x 6, x 8] W _
      rw [e6, e8]
      exact (order_named M M' o1 W hMb hMb' HO1.out).mono fun e w' ⟨h1, h2⟩ => ⟨_, h1, rfl, h2⟩)
    case c5 => exact ask_field (guard_none rfl) _ (.tmp 2) 2 (.pointer (some ⟨w.heap.size, 0, none⟩)) (.pointer (some ⟨w.heap.size, 2, none⟩)) rfl rfl (by intro k hk; cases hk; rfl) (fun W => by kernel_rfl)
    case c6 => exact ask_load (guard_none rfl) _ (.tmp 10) (.pointer (some ⟨w.heap.size, 2, none⟩)) (.float .f64 S) rfl rfl (by intro k hk; cases hk; rfl) (fun W hW => load_flt W _ _ (hcell1 W 2 _ hW.1 rfl))
    case c7 => exact ask_field (guard_none rfl) _ (.tmp 3) 2 (.pointer (some ⟨w.heap.size + 1, 0, none⟩)) (.pointer (some ⟨w.heap.size + 1, 2, none⟩)) rfl rfl (by intro k hk; cases hk; rfl) (fun W => by kernel_rfl)
    case c8 => exact ask_load (guard_none rfl) _ (.tmp 12) (.pointer (some ⟨w.heap.size + 1, 2, none⟩)) (.float .f64 S') rfl rfl (by intro k hk; cases hk; rfl) (fun W hW => load_flt W _ _ (hcell2 W 2 _ hW.1 rfl))
    case c9 => exact ask_call_still (guard_none rfl) _ _ _ (.is (.int .i64 o2)) rfl (by kernel_rfl) (by intro k hk; cases hk; rfl) (fun x W hW hk => by
      have e6 : x 11 = .float .f64 S := hk 11 rfl
      have e8 : x 13 = .float .f64 S' := hk 13 rfl
      show Calls _ _ #[x 11, x 13] W _
      rw [e6, e8]
      exact (order_named S S' o2 W hSb hSb' HO2.out).mono fun e w' ⟨h1, h2⟩ => ⟨_, h1, rfl, h2⟩)
    case c10 => exact ask_field (guard_none rfl) _ (.tmp 2) 0 (.pointer (some ⟨w.heap.size, 0, none⟩)) (.pointer (some ⟨w.heap.size, 0, none⟩)) rfl rfl (by intro k hk; cases hk; rfl) (fun W => by kernel_rfl)
    case c11 => exact ask_load (guard_none rfl) _ (.tmp 15) (.pointer (some ⟨w.heap.size, 0, none⟩)) (.int .i64 (p : Int)) rfl rfl (by intro k hk; cases hk; rfl) (fun W hW => load_int W _ _ (hcell1 W 0 _ hW.1 rfl))
    case c12 => exact ask_field (guard_none rfl) _ (.tmp 3) 0 (.pointer (some ⟨w.heap.size + 1, 0, none⟩)) (.pointer (some ⟨w.heap.size + 1, 0, none⟩)) rfl rfl (by intro k hk; cases hk; rfl) (fun W => by kernel_rfl)
    case c13 => exact ask_load (guard_none rfl) _ (.tmp 17) (.pointer (some ⟨w.heap.size + 1, 0, none⟩)) (.int .i64 (p' : Int)) rfl rfl (by intro k hk; cases hk; rfl) (fun W hW => load_int W _ _ (hcell2 W 0 _ hW.1 rfl))
    case c14 => exact ask_call_still (guard_none rfl) _ _ _ (.is (.int .i64 o3)) rfl (by kernel_rfl) (by intro k hk; cases hk; rfl) (fun x W hW hk => by
      have e6 : x 16 = .int .i64 (p : Int) := hk 16 rfl
      have e8 : x 18 = .int .i64 (p' : Int) := hk 18 rfl
      show Calls _ _ #[x 16, x 18] W _
      rw [e6, e8]
      exact (compare_named (p : Int) (p' : Int) o3 W HO3.out).mono fun e w' ⟨h1, h2⟩ => ⟨_, h1, rfl, h2⟩)
    case c15 => exact ask_makes (fun W o h => ⟨h.1.alloc h.1.size _, h.2⟩) (guard_none rfl) (.sat (fun v W => OrAt v W o1 o2 o3) (fun _ _ _ h hb => h.keep hb)) (by intro k hk; cases hk; rfl) (fun x W hW hk => by
      have e9 : x 9 = .int .i64 o1 := hk 9 rfl
      have e14 : x 14 = .int .i64 o2 := hk 14 rfl
      have e19 : x 19 = .int .i64 o3 := hk 19 rfl
      refine ⟨.slice (some ⟨W.heap.size, 0, none⟩) 3 3, .cells #[.int .i64 o1, .int .i64 o2, .int .i64 o3] 3, ?_, ⟨W.heap.size, rfl, by simp [World.cell?_alloc_at], by simp [World.cell?_alloc_at], by simp [World.cell?_alloc_at]⟩⟩
      rw [← e9, ← e14, ← e19]
      simp [execOp, evalBy, e9, e14, e19, go_sem])
    case c16 => exact ask_call_still (guard_none rfl) _ _ _ (.is (.int .i64 (orL o1 o2 o3))) rfl (by kernel_rfl) (by intro k hk; cases hk; rfl) (fun x W hW hk => by
      obtain ⟨B, e, h0, h1, h2⟩ : OrAt (x 20) W o1 o2 o3 := hk 20 rfl
      show Calls _ _ #[x 20] W _
      rw [e]
      exact (or_any B o1 o2 o3 W h0 h1 h2).mono fun e w' ⟨h1, h2⟩ => ⟨_, h1, rfl, h2⟩)
    case c17 => exact ask_copy (guard_none rfl) (.tmp 21) (.inr rfl) (by intro k hk; cases hk; rfl)
  · intro a' W3 hW3 hd3 hs3 hf3
    have h4 : a'.tmps.getD 4 undef = .int .i64 (orL o1 o2 o3) := hf3 4 rfl
    have hd0 : a'.defers = [] := hd3
    go_wp2
    refine bodyPost_ret (v := .int .i64 (orL o1 o2 o3)) ?_ hd0 ⟨rfl, grown_form (HB2.out.trans (hW3.1.mono HB2.out.size)) (by have := HD2.out; have := hW3.2; omega)⟩
    rw [← h4]
    exact results_tmp rfl _ _ _

end Go.Proofs.Ytoabhnbifbdknaa
