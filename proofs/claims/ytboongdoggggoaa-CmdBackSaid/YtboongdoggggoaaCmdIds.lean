/- The members, read by the reference. -/
import Derived.Test.YtboongdoggggoaaCmdMembers
namespace Go.Proofs.Ytboongdoggggoaa
set_option maxRecDepth 20000
open Go.RowKit BinMath CmdMath
variable {G : Nat} {a : Option Addr} {cap : Nat}

theorem conv_int (k : Nat) (hk : k ≤ 7) (W : World) : (convert 33 3 (.int .u64 (k : Int))).run Try.prog W = .ok (.int .i64 (k : Int)) W := by
  have hp : Try.prog.intKind 3 = .i64 := by kernel_rfl
  have h := run_convert_int (P := Try.prog) W 33 3 .u64 (k : Int) (by kernel_rfl) (by rw [hp]; exact Try.underlying3)
  rw [hp] at h
  have e : IntKind.i64.wrap (k : Int) = (k : Int) := by rw [IntKind.wrap_i64]; omega
  rw [h, e]

/-- append(v, x), v the call's own. -/
theorem append_num {w : World} {B : Nat} {v : Value} {l : List Nat} (hB : B ≤ w.heap.size) (h : NRow w B v l) (hl : l.length ≤ 1000) (x : Nat) :
    ∃ v' w', (Builtin.append_ #[43, 43] 43 #[v, .slice (some ⟨w.heap.size, 0, none⟩) 1 1]).run Try.prog (w.alloc (.cells #[.int .u64 (x : Int)] 33)) = .ok v' w' ∧ NRow w' B v' (l ++ [x]) ∧ (w.alloc (.cells #[.int .u64 (x : Int)] 33)).grownBy w' v.ownBlock := by
  obtain ⟨i0, hi, hz0, hz1, hz2⟩ := info_parts info_num
  have hk := h.keep ((Below.refl _ w).alloc (Nat.le_refl _) (.cells #[.int .u64 (x : Int)] 33))
  have hg := Blk.new w 33 #[.int .u64 (x : Int)]
  obtain ⟨v', w', hr, h1, h2, -⟩ := run_append_own (P := Try.prog) _ B 43 43 33 i0 (.int .u64 0) 1 8 Try.underlying43 hi hz0 hz1 hz2 rfl (by decide) v l.length (l.map uv) hk ⟨w.heap.size, 0, none⟩ 1 1 [.int .u64 (x : Int)] rfl
    (fun j u hj => by rw [addr_add, Nat.zero_add, hg.cell]; simpa using hj) (by intro u hu; simp at hu; subst hu; rfl) (by unfold maxLen; omega) (by omega) (by rw [World.size_alloc]; omega)
  refine ⟨v', w', hr, ?_, h2⟩
  unfold NRow
  rw [List.length_append, List.map_append]
  exact h1

theorem RAt.only {w w' : World} {Q : Nat} {l r : List UInt8} {S : Nat → Prop} (h : RAt w Q G a cap l r) (ho : OnlyS S w w') (hS : ∀ b, b < G → ¬ S b) (hSQ : ¬ S Q) : RAt w' Q G a cap l r := by
  obtain ⟨k, hk, e⟩ := h
  exact ⟨k, hk.only ho hS hSQ, e⟩

theorem RAt.below {w w' : World} {Q : Nat} {l r : List UInt8} (h : RAt w Q G a cap l r) (hb : Below w.heap.size w w') : RAt w' Q G a cap l r := by
  obtain ⟨k, hk, e⟩ := h
  exact ⟨k, hk.below hb, e⟩

theorem RAt.lt {w : World} {Q : Nat} {l r : List UInt8} (h : RAt w Q G a cap l r) : Q < w.heap.size ∧ G ≤ Q := by
  obtain ⟨k, hk, e⟩ := h
  have := hk.facts
  exact ⟨this.1, this.2.2.2.1⟩

theorem RAt.grown {w w' : World} {Q B : Nat} {l r : List UInt8} {row : Option Nat} (h : RAt w Q G a cap l r) (hgr : w.grownBy w' row) (hrow : ∀ k, row = some k → B ≤ k) (hQ : Q < B) (hG : G ≤ B) : RAt w' Q G a cap l r :=
  h.only (S := fun b => B ≤ b) ⟨hgr.os, hgr.tape, hgr.output, hgr.size, fun k hk hs => hgr.block k hk (fun e => hs (hrow k e.symm))⟩ (fun _ hb hs => Nat.lt_irrefl _ (Nat.lt_of_lt_of_le hb (Nat.le_trans hG hs))) (fun hs => Nat.lt_irrefl _ (Nat.lt_of_lt_of_le hQ hs))

/-- How the reference's reading of the members ends. -/
def IdsEnd (G Q : Nat) (a : Option Addr) (cap : Nat) (l r : List UInt8) (w : World) (e : Ending) (w' : World) : Prop :=
  Only Q w w' ∧ match gMem r with
    | .ok (m, q) => ∃ v, e = .returned (.tuple #[v, .int .i64 0]) ∧ NRow w' w.heap.size v m ∧ RAt w' Q G a cap l q
    | .error c => e = .returned (.tuple #[.slice none 0 0, .int .i64 (c : Int)])

theorem below_only {Q : Nat} {w w1 w2 : World} (ho : Only Q w w1) {row : Option Nat} (hgr : w1.grownBy w2 row) (hrow : ∀ k, row = some k → w.heap.size ≤ k) : Only Q w w2 :=
  ⟨hgr.os.trans ho.os, hgr.tape.trans ho.tape, hgr.output.trans ho.output, Nat.le_trans ho.size hgr.size, fun k hk hq => by
    rw [hgr.block k (Nat.lt_of_lt_of_le hk ho.size) (fun e => by have := hrow k e.symm; omega)]
    exact ho.block k hk hq⟩

set_option maxHeartbeats 4000000 in
theorem ids_any {Q : Nat} {l r : List UInt8} {w : World} (h : RAt w Q G a cap l r) :
    Calls Try.prog 119 #[.pointer (some ⟨Q, 0, none⟩)] w (IdsEnd G Q a cap l r w) := by
  have hlt := h.lt
  have hz0 : (((0 : Nat) : Int) != 0) = false := rfl
  cases hn : gNum r with
  | error c =>
    have hc := gNum_err hn
    have hcz : ((c : Int) != 0) = true := by simp; omega
    have e : gMem r = .error c := by simp only [gMem, hn]
    have HN := Lib.hid (refreadNum_bad h hn)
    have HE := Lib.hid e
    clear h hn hc e hz0
    go_enter Try.func119, Try.ntmps119
    go_wp2_with fail
    refine HN.out.mono ?_
    rintro e w1 ⟨rfl, ho⟩
    have HO := Lib.hid ho
    clear ho
    go_wp2
    exact bodyPost_ret (v := .tuple #[.slice none 0 0, .int .i64 (c : Int)]) (by simp [results, Try.results119, go_sem]) rfl ⟨HO.out, by rw [HE.out]⟩
  | ok p =>
    obtain ⟨n, q⟩ := p
    have hn64 := (gNum_back hn).1
    have HN := Lib.hid (refreadNum_ok h hn)
    by_cases h17 : 1 ≤ n ∧ n ≤ 7
    · have e := gMem_ok hn h17
      have HE := Lib.hid e
      have hn1 := h17.1
      have hn7 := h17.2
      have hcv := conv_int n hn7
      have d1 : decide ((n : Int) < 1) = false := by simp; omega
      have d7 : decide ((7 : Int) < (n : Int)) = false := by simp; omega
      clear h hn e h17
      go_enter Try.func119, Try.ntmps119
      go_wp2_with fail
      refine HN.out.mono ?_
      rintro e w1 ⟨rfl, ha, ho⟩
      have HA := Lib.hid ha
      have HO := Lib.hid ho
      clear ha ho
      go_wp2
      go_loopw [6, 7, 8] (fun s6 s7 s8 wr => ∃ (i last : Nat) (pre : List Nat) (rr : List UInt8), i ≤ n ∧ s8 = .int .i64 (i : Int) ∧ s7 = .int .u64 (last : Int) ∧ pre.length = i ∧ NRow wr w.heap.size s6 pre ∧ RAt wr Q G a cap l rr ∧ Only Q w wr ∧ gMem r = joinR pre (gIds (n - i) last rr)) (fun _ _ s8 _ => n - (intOf s8).toNat)
      case atStart => exact ⟨0, 0, [], q, by omega, rfl, rfl, rfl, World.ownsRow_nil _ _ _ _, HA.out, HO.out, HE.out⟩
      case round =>
        obtain ⟨i, last, pre, rr, hi, rfl, rfl, hpl, hrow, hat, hon, heq⟩ := hrel
        have HPl := Lib.hid hpl
        have HRow := Lib.hid hrow
        have HAt := Lib.hid hat
        have HOn := Lib.hid hon
        have HEq := Lib.hid heq
        clear hpl hrow hon heq
        by_cases hlt2 : i < n
        · obtain ⟨k, hk⟩ : ∃ k, n - i = k + 1 := ⟨n - i - 1, by omega⟩
          cases hx : gNum rr with
          | error c =>
            have hc := gNum_err hx
            have hcz : ((c : Int) != 0) = true := by simp; omega
            have HN2 := Lib.hid (refreadNum_bad hat hx)
            have HE2 := Lib.hid (show gMem r = .error c by rw [HEq.out, hk, gIds_none hx]; rfl)
            clear hat hx hc hk
            go_wp2_with fail
            refine HN2.out.mono ?_
            rintro e w4 ⟨rfl, ho⟩
            have HO4 := Lib.hid (HOn.out.trans ho)
            clear ho
            go_wp2
            exact bodyPost_ret (v := .tuple #[.slice none 0 0, .int .i64 (c : Int)]) (by simp [results, Try.results119, go_sem]) rfl ⟨HO4.out, by rw [HE2.out]⟩
          | ok p =>
            obtain ⟨x, q2⟩ := p
            have hx64 := (gNum_back hx).1
            have HN2 := Lib.hid (refreadNum_ok hat hx)
            by_cases hxl : last < x
            · have dl : decide ((x : Int) ≤ (last : Int)) = false := by simp; omega
              by_cases hx7 : x ≤ 7
              · have dx : decide ((7 : Int) < (x : Int)) = false := by simp; omega
                have HE2 := Lib.hid (show gMem r = joinR (pre ++ [x]) (gIds (n - (i + 1)) x q2) by rw [HEq.out, hk, gIds_next pre hx ⟨hxl, hx7⟩, show n - (i + 1) = k by omega])
                clear hat hx hk
                go_wp2_with fail
                refine HN2.out.mono ?_
                rintro e w4 ⟨rfl, ha, ho⟩
                have HA4 := Lib.hid ha
                have HR4 := Lib.hid (HRow.out.only hlt.1 ho)
                have HO4 := Lib.hid (HOn.out.trans ho)
                have hsz : w.heap.size ≤ w4.heap.size := HO4.out.size
                have A5 := Lib.hid (append_num hsz HR4.out (by rw [HPl.out]; omega) x)
                have HR5 := Lib.hid (HR4.out.keep ((Below.refl _ w4).alloc (Nat.le_refl _) (.cells #[.int .u64 (x : Int)] 33)))
                have HA5 := Lib.hid (HA4.out.below ((Below.refl _ w4).alloc (Nat.le_refl _) (.cells #[.int .u64 (x : Int)] 33)))
                have HO5 := Lib.hid (HO4.out.alloc (.cells #[.int .u64 (x : Int)] 33))
                clear ha ho
                go_wp2_with (at_builtin; refine wpList_append_by rfl _ _ 43 rfl _ _ rfl rfl _ A5.out ?_; rintro v6 w6 ⟨hr, hgr⟩; (have HR6 := Lib.hid hr); (have HO6 := Lib.hid (below_only HO5.out hgr fun k hk => (World.ownsRow.lt HR5.out k hk).1)); (have HA6 := Lib.hid (HA5.out.grown hgr (fun k hk => (World.ownsRow.lt HR5.out k hk).1) hlt.1 (Nat.le_trans hlt.2 (Nat.le_of_lt hlt.1)))); clear hr hgr)
                go_round
                case rel => exact ⟨i + 1, x, pre ++ [x], q2, by omega, by go_num, rfl, by rw [List.length_append, HPl.out]; rfl, HR6.out, HA6.out, HO6.out, HE2.out⟩
                case measure => simp [intOf]; omega
              · have dx : decide ((7 : Int) < (x : Int)) = true := by simp; omega
                have HE2 := Lib.hid (show gMem r = .error 3 by rw [HEq.out, hk, gIds_bad hx (by omega)]; rfl)
                clear hat hx hk hx7
                go_wp2_with fail
                refine HN2.out.mono ?_
                rintro e w4 ⟨rfl, ha, ho⟩
                have HO4 := Lib.hid (HOn.out.trans ho)
                clear ha ho
                go_wp2
                exact bodyPost_ret (v := .tuple #[.slice none 0 0, .int .i64 3]) (by simp [results, Try.results119, go_sem]) rfl ⟨HO4.out, by rw [HE2.out]; rfl⟩
            · have dl : decide ((x : Int) ≤ (last : Int)) = true := by simp; omega
              have HE2 := Lib.hid (show gMem r = .error 3 by rw [HEq.out, hk, gIds_bad hx (by omega)]; rfl)
              have hxN : x ≤ last := by omega
              clear hat hx hk hxl
              go_wp2_with fail
              refine HN2.out.mono ?_
              rintro e w4 ⟨rfl, ha, ho⟩
              have HO4 := Lib.hid (HOn.out.trans ho)
              clear ha ho
              go_wp2
              exact bodyPost_ret (v := .tuple #[.slice none 0 0, .int .i64 3]) (by simp [results, Try.results119, go_sem]) rfl ⟨HO4.out, by rw [HE2.out]; rfl⟩
        · obtain rfl : i = n := by omega
          have e := HEq.out
          rw [Nat.sub_self] at e
          simp only [gIds, joinR, List.append_nil] at e
          have HE2 := Lib.hid e
          have HF := Lib.hid (fun v (hv : NRow wr w.heap.size v pre) => show IdsEnd G Q a cap l r w (.returned (.tuple #[v, .int .i64 0])) wr from ⟨HOn.out, by rw [HE2.out]; exact ⟨v, rfl, hv, HAt.out⟩⟩)
          clear e hat
          go_wp2
          exact bodyPost_ret (v := .tuple #[_, .int .i64 0]) (by simp [results, Try.results119, go_sem]) rfl (HF.out _ HRow.out)
    · have HE := Lib.hid (show gMem r = .error 3 by simp only [gMem, hn, if_neg h17])
      by_cases h1 : 1 ≤ n
      · have d1 : decide ((n : Int) < 1) = false := by simp; omega
        have d7 : decide ((7 : Int) < (n : Int)) = true := by simp; omega
        clear h hn h17
        go_enter Try.func119, Try.ntmps119
        go_wp2_with fail
        refine HN.out.mono ?_
        rintro e w1 ⟨rfl, ha, ho⟩
        have HO := Lib.hid ho
        clear ha ho
        go_wp2
        exact bodyPost_ret (v := .tuple #[.slice none 0 0, .int .i64 3]) (by simp [results, Try.results119, go_sem]) rfl ⟨HO.out, by rw [HE.out]; rfl⟩
      · have d1 : decide ((n : Int) < 1) = true := by simp; omega
        clear h hn h17 h1
        go_enter Try.func119, Try.ntmps119
        go_wp2_with fail
        refine HN.out.mono ?_
        rintro e w1 ⟨rfl, ha, ho⟩
        have HO := Lib.hid ho
        clear ha ho
        go_wp2
        exact bodyPost_ret (v := .tuple #[.slice none 0 0, .int .i64 3]) (by simp [results, Try.results119, go_sem]) rfl ⟨HO.out, by rw [HE.out]; rfl⟩

end Go.Proofs.Ytboongdoggggoaa
