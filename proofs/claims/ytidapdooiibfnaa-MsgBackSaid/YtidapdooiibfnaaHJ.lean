/- Joined: CmdIds, CmdRefRead, CmdRefGet. -/
import Derived.Test.YtidapdooiibfnaaHE
import Derived.Test.YtidapdooiibfnaaHI
/- The members, read by the reference. -/
namespace Go.Proofs.Ytidapdooiibfnaa
set_option maxRecDepth 20000
open Go.RowKit BinMath CmdMath
variable {G : Nat} {a : Option Addr} {cap : Nat}

theorem conv_int (k : Nat) (hk : k ≤ 7) (W : World) : (convert 22 3 (.int .u64 (k : Int))).run Try.prog W = .ok (.int .i64 (k : Int)) W := by
  have hp : Try.prog.intKind 3 = .i64 := by kernel_rfl
  have h := run_convert_int (P := Try.prog) W 22 3 .u64 (k : Int) (by kernel_rfl) (by rw [hp]; exact Try.underlying3)
  rw [hp] at h
  have e : IntKind.i64.wrap (k : Int) = (k : Int) := by rw [IntKind.wrap_i64]; omega
  rw [h, e]

/-- append(v, x), v the call's own. -/
theorem append_num {w : World} {B : Nat} {v : Value} {l : List Nat} (hB : B ≤ w.heap.size) (h : NRow w B v l) (hl : l.length ≤ 1000) (x : Nat) :
    ∃ v' w', (Builtin.append_ #[24, 24] 24 #[v, .slice (some ⟨w.heap.size, 0, none⟩) 1 1]).run Try.prog (w.alloc (.cells #[.int .u64 (x : Int)] 22)) = .ok v' w' ∧ NRow w' B v' (l ++ [x]) ∧ (w.alloc (.cells #[.int .u64 (x : Int)] 22)).grownBy w' v.ownBlock := by
  obtain ⟨i0, hi, hz0, hz1, hz2⟩ := info_parts info_num
  have hk := h.keep ((Below.refl _ w).alloc (Nat.le_refl _) (.cells #[.int .u64 (x : Int)] 22))
  have hg := Blk.new w 22 #[.int .u64 (x : Int)]
  obtain ⟨v', w', hr, h1, h2, -⟩ := run_append_own (P := Try.prog) _ B 24 24 22 i0 (.int .u64 0) 1 8 Try.underlying24 hi hz0 hz1 hz2 rfl (by decide) v l.length (l.map uv) hk ⟨w.heap.size, 0, none⟩ 1 1 [.int .u64 (x : Int)] rfl
    (fun j u hj => by rw [addr_add, Nat.zero_add, hg.cell]; simpa using hj) (by intro u hu; simp at hu; subst hu; rfl) (by unfold maxLen; omega) (by omega) (by rw [World.size_alloc]; omega)
  refine ⟨v', w', hr, ?_, h2⟩
  unfold NRow
  rw [List.length_append, List.map_append]
  exact h1

theorem RAt.only {w w' : World} {Q : Nat} {l r : List UInt8} {S : Nat → Prop} (h : RAt w Q G a cap l r) (ho : OnlyS S w w') (hS : ∀ b, b < G → ¬ S b) (hSQ : ¬ S Q) : RAt w' Q G a cap l r := by
  obtain ⟨k, hk, e⟩ := h
  exact ⟨k, hk.only ho hS hSQ, e⟩

theorem RAt.below {w w' : World} {Q : Nat} {l r : List UInt8} (h : RAt w Q G a cap l r) (hb : Below w.heap.size w w') : RAt w' Q G a cap l r := by
  obtain ⟨k, hk, e⟩ := h
  exact ⟨k, hk.below hb, e⟩

theorem RAt.lt {w : World} {Q : Nat} {l r : List UInt8} (h : RAt w Q G a cap l r) : Q < w.heap.size ∧ G ≤ Q := by
  obtain ⟨k, hk, e⟩ := h
  have := hk.facts
  exact ⟨this.1, this.2.2.2.1⟩

theorem RAt.grown {w w' : World} {Q B : Nat} {l r : List UInt8} {row : Option Nat} (h : RAt w Q G a cap l r) (hgr : w.grownBy w' row) (hrow : ∀ k, row = some k → B ≤ k) (hQ : Q < B) (hG : G ≤ B) : RAt w' Q G a cap l r :=
  h.only (S := fun b => B ≤ b) ⟨hgr.os, hgr.tape, hgr.output, hgr.size, fun k hk hs => hgr.block k hk (fun e => hs (hrow k e.symm))⟩ (fun _ hb hs => Nat.lt_irrefl _ (Nat.lt_of_lt_of_le hb (Nat.le_trans hG hs))) (fun hs => Nat.lt_irrefl _ (Nat.lt_of_lt_of_le hQ hs))

/-- How the reference's reading of the members ends. -/
def IdsEnd (G Q : Nat) (a : Option Addr) (cap : Nat) (l r : List UInt8) (w : World) (e : Ending) (w' : World) : Prop :=
  Only Q w w' ∧ match gMem r with
    | .ok (m, q) => ∃ v, e = .returned (.tuple #[v, .int .i64 0]) ∧ NRow w' w.heap.size v m ∧ RAt w' Q G a cap l q
    | .error c => e = .returned (.tuple #[.slice none 0 0, .int .i64 (c : Int)])

theorem below_only {Q : Nat} {w w1 w2 : World} (ho : Only Q w w1) {row : Option Nat} (hgr : w1.grownBy w2 row) (hrow : ∀ k, row = some k → w.heap.size ≤ k) : Only Q w w2 :=
  ⟨hgr.os.trans ho.os, hgr.tape.trans ho.tape, hgr.output.trans ho.output, Nat.le_trans ho.size hgr.size, fun k hk hq => by
    rw [hgr.block k (Nat.lt_of_lt_of_le hk ho.size) (fun e => by have := hrow k e.symm; omega)]
    exact ho.block k hk hq⟩

set_option maxHeartbeats 4000000 in
theorem ids_any {Q : Nat} {l r : List UInt8} {w : World} (h : RAt w Q G a cap l r) :
    Calls Try.prog 39 #[.pointer (some ⟨Q, 0, none⟩)] w (IdsEnd G Q a cap l r w) := by
  have hlt := h.lt
  have hz0 : (((0 : Nat) : Int) != 0) = false := rfl
  cases hn : gNum r with
  | error c =>
    have hc := gNum_err hn
    have hcz : ((c : Int) != 0) = true := by simp; omega
    have e : gMem r = .error c := by simp only [gMem, hn]
    have HN := Lib.hid (refreadNum_bad h hn)
    have HE := Lib.hid e
    clear h hn hc e hz0
    go_enter Try.func39, Try.ntmps39
    go_wp2_with fail
    refine HN.out.mono ?_
    rintro e w1 ⟨rfl, ho⟩
    have HO := Lib.hid ho
    clear ho
    go_wp2
    exact bodyPost_ret (v := .tuple #[.slice none 0 0, .int .i64 (c : Int)]) (by simp [results, Try.results39, go_sem]) rfl ⟨HO.out, by rw [HE.out]⟩
  | ok p =>
    obtain ⟨n, q⟩ := p
    have hn64 := (gNum_back hn).1
    have HN := Lib.hid (refreadNum_ok h hn)
    by_cases h17 : 1 ≤ n ∧ n ≤ 7
    · have e := gMem_ok hn h17
      have HE := Lib.hid e
      have hn1 := h17.1
      have hn7 := h17.2
      have hcv := conv_int n hn7
      have d1 : decide ((n : Int) < 1) = false := by simp; omega
      have d7 : decide ((7 : Int) < (n : Int)) = false := by simp; omega
      clear h hn e h17
      go_enter Try.func39, Try.ntmps39
      go_wp2_with fail
      refine HN.out.mono ?_
      rintro e w1 ⟨rfl, ha, ho⟩
      have HA := Lib.hid ha
      have HO := Lib.hid ho
      clear ha ho
      go_wp2
      go_loopw [6, 7, 8] (fun s6 s7 s8 wr => ∃ (i last : Nat) (pre : List Nat) (rr : List UInt8), i ≤ n ∧ s8 = .int .i64 (i : Int) ∧ s7 = .int .u64 (last : Int) ∧ pre.length = i ∧ NRow wr w.heap.size s6 pre ∧ RAt wr Q G a cap l rr ∧ Only Q w wr ∧ gMem r = joinR pre (gIds (n - i) last rr)) (fun _ _ s8 _ => n - (intOf s8).toNat)
      case atStart => exact ⟨0, 0, [], q, by omega, rfl, rfl, rfl, World.ownsRow_nil _ _ _ _, HA.out, HO.out, HE.out⟩
      case round =>
        obtain ⟨i, last, pre, rr, hi, rfl, rfl, hpl, hrow, hat, hon, heq⟩ := hrel
        have HPl := Lib.hid hpl
        have HRow := Lib.hid hrow
        have HAt := Lib.hid hat
        have HOn := Lib.hid hon
        have HEq := Lib.hid heq
        clear hpl hrow hon heq
        by_cases hlt2 : i < n
        · obtain ⟨k, hk⟩ : ∃ k, n - i = k + 1 := ⟨n - i - 1, by omega⟩
          cases hx : gNum rr with
          | error c =>
            have hc := gNum_err hx
            have hcz : ((c : Int) != 0) = true := by simp; omega
            have HN2 := Lib.hid (refreadNum_bad hat hx)
            have HE2 := Lib.hid (show gMem r = .error c by rw [HEq.out, hk, gIds_none hx]; rfl)
            clear hat hx hc hk
            go_wp2_with fail
            refine HN2.out.mono ?_
            rintro e w4 ⟨rfl, ho⟩
            have HO4 := Lib.hid (HOn.out.trans ho)
            clear ho
            go_wp2
            exact bodyPost_ret (v := .tuple #[.slice none 0 0, .int .i64 (c : Int)]) (by simp [results, Try.results39, go_sem]) rfl ⟨HO4.out, by rw [HE2.out]⟩
          | ok p =>
            obtain ⟨x, q2⟩ := p
            have hx64 := (gNum_back hx).1
            have HN2 := Lib.hid (refreadNum_ok hat hx)
            by_cases hxl : last < x
            · have dl : decide ((x : Int) ≤ (last : Int)) = false := by simp; omega
              by_cases hx7 : x ≤ 7
              · have dx : decide ((7 : Int) < (x : Int)) = false := by simp; omega
                have HE2 := Lib.hid (show gMem r = joinR (pre ++ [x]) (gIds (n - (i + 1)) x q2) by rw [HEq.out, hk, gIds_next pre hx ⟨hxl, hx7⟩, show n - (i + 1) = k by omega])
                clear hat hx hk
                go_wp2_with fail
                refine HN2.out.mono ?_
                rintro e w4 ⟨rfl, ha, ho⟩
                have HA4 := Lib.hid ha
                have HR4 := Lib.hid (HRow.out.only hlt.1 ho)
                have HO4 := Lib.hid (HOn.out.trans ho)
                have hsz : w.heap.size ≤ w4.heap.size := HO4.out.size
                have A5 := Lib.hid (append_num hsz HR4.out (by rw [HPl.out]; omega) x)
                have HR5 := Lib.hid (HR4.out.keep ((Below.refl _ w4).alloc (Nat.le_refl _) (.cells #[.int .u64 (x : Int)] 22)))
                have HA5 := Lib.hid (HA4.out.below ((Below.refl _ w4).alloc (Nat.le_refl _) (.cells #[.int .u64 (x : Int)] 22)))
                have HO5 := Lib.hid (HO4.out.alloc (.cells #[.int .u64 (x : Int)] 22))
                clear ha ho
                go_wp2_with (at_builtin; refine wpList_append_by rfl _ _ 24 rfl _ _ rfl rfl _ A5.out ?_; rintro v6 w6 ⟨hr, hgr⟩; (have HR6 := Lib.hid hr); (have HO6 := Lib.hid (below_only HO5.out hgr fun k hk => (World.ownsRow.lt HR5.out k hk).1)); (have HA6 := Lib.hid (HA5.out.grown hgr (fun k hk => (World.ownsRow.lt HR5.out k hk).1) hlt.1 (Nat.le_trans hlt.2 (Nat.le_of_lt hlt.1)))); clear hr hgr)
                go_round
                case rel => exact ⟨i + 1, x, pre ++ [x], q2, by omega, by go_num, rfl, by rw [List.length_append, HPl.out]; rfl, HR6.out, HA6.out, HO6.out, HE2.out⟩
                case measure => simp [intOf]; omega
              · have dx : decide ((7 : Int) < (x : Int)) = true := by simp; omega
                have HE2 := Lib.hid (show gMem r = .error 3 by rw [HEq.out, hk, gIds_bad hx (by omega)]; rfl)
                clear hat hx hk hx7
                go_wp2_with fail
                refine HN2.out.mono ?_
                rintro e w4 ⟨rfl, ha, ho⟩
                have HO4 := Lib.hid (HOn.out.trans ho)
                clear ha ho
                go_wp2
                exact bodyPost_ret (v := .tuple #[.slice none 0 0, .int .i64 3]) (by simp [results, Try.results39, go_sem]) rfl ⟨HO4.out, by rw [HE2.out]; rfl⟩
            · have dl : decide ((x : Int) ≤ (last : Int)) = true := by simp; omega
              have HE2 := Lib.hid (show gMem r = .error 3 by rw [HEq.out, hk, gIds_bad hx (by omega)]; rfl)
              have hxN : x ≤ last := by omega
              clear hat hx hk hxl
              go_wp2_with fail
              refine HN2.out.mono ?_
              rintro e w4 ⟨rfl, ha, ho⟩
              have HO4 := Lib.hid (HOn.out.trans ho)
              clear ha ho
              go_wp2
              exact bodyPost_ret (v := .tuple #[.slice none 0 0, .int .i64 3]) (by simp [results, Try.results39, go_sem]) rfl ⟨HO4.out, by rw [HE2.out]; rfl⟩
        · obtain rfl : i = n := by omega
          have e := HEq.out
          rw [Nat.sub_self] at e
          simp only [gIds, joinR, List.append_nil] at e
          have HE2 := Lib.hid e
          have HF := Lib.hid (fun v (hv : NRow wr w.heap.size v pre) => show IdsEnd G Q a cap l r w (.returned (.tuple #[v, .int .i64 0])) wr from ⟨HOn.out, by rw [HE2.out]; exact ⟨v, rfl, hv, HAt.out⟩⟩)
          clear e hat
          go_wp2
          exact bodyPost_ret (v := .tuple #[_, .int .i64 0]) (by simp [results, Try.results39, go_sem]) rfl (HF.out _ HRow.out)
    · have HE := Lib.hid (show gMem r = .error 3 by simp only [gMem, hn, if_neg h17])
      by_cases h1 : 1 ≤ n
      · have d1 : decide ((n : Int) < 1) = false := by simp; omega
        have d7 : decide ((7 : Int) < (n : Int)) = true := by simp; omega
        clear h hn h17
        go_enter Try.func39, Try.ntmps39
        go_wp2_with fail
        refine HN.out.mono ?_
        rintro e w1 ⟨rfl, ha, ho⟩
        have HO := Lib.hid ho
        clear ha ho
        go_wp2
        exact bodyPost_ret (v := .tuple #[.slice none 0 0, .int .i64 3]) (by simp [results, Try.results39, go_sem]) rfl ⟨HO.out, by rw [HE.out]; rfl⟩
      · have d1 : decide ((n : Int) < 1) = true := by simp; omega
        clear h hn h17 h1
        go_enter Try.func39, Try.ntmps39
        go_wp2_with fail
        refine HN.out.mono ?_
        rintro e w1 ⟨rfl, ha, ho⟩
        have HO := Lib.hid ho
        clear ha ho
        go_wp2
        exact bodyPost_ret (v := .tuple #[.slice none 0 0, .int .i64 3]) (by simp [results, Try.results39, go_sem]) rfl ⟨HO.out, by rw [HE.out]; rfl⟩

end Go.Proofs.Ytidapdooiibfnaa

/- An entry, read by the reference. -/
namespace Go.Proofs.Ytidapdooiibfnaa
set_option maxRecDepth 20000
open Go.RowKit BinMath CmdMath
variable {G : Nat} {a : Option Addr} {cap : Nat}

/-- In the midst of the reading: the reader, the block of the result and that of the entry. -/
structure RIn (w : World) (Q G : Nat) (a : Option Addr) (cap : Nat) (g2 g3 : Nat) (l r : List UInt8) (c3 : Array Value) (W : World) : Prop where
  at_ : RAt W Q G a cap l r
  only : Only Q w W
  b2 : Blk W g2 42 zeroC
  b3 : Blk W g3 42 c3
  rw_ : Q < w.heap.size
  gw : G ≤ Q
  h2 : w.heap.size ≤ g2
  h3 : w.heap.size ≤ g3
  ne : g2 ≠ g3

theorem RIn.call {w W W' : World} {Q g2 g3 : Nat} {l r r' : List UInt8} {c3 : Array Value} (h : RIn w Q G a cap g2 g3 l r c3 W) (ha : RAt W' Q G a cap l r') (ho : Only Q W W') : RIn w Q G a cap g2 g3 l r' c3 W' :=
  have h1 := h.rw_; have h2 := h.h2; have h3 := h.h3
  ⟨ha, h.only.trans ho, h.b2.onlyR ho (by omega), h.b3.onlyR ho (by omega), h.rw_, h.gw, h.h2, h.h3, h.ne⟩

theorem RIn.set {w W W' : World} {Q g2 g3 : Nat} {l r : List UInt8} {c3 c3' : Array Value} (h : RIn w Q G a cap g2 g3 l r c3 W) (hb : Blk W' g3 42 c3') (ho : OnlyS (fun b => b = g3) W W') : RIn w Q G a cap g2 g3 l r c3' W' :=
  have h0 := h.rw_; have h1 := h.gw; have h2 := h.h2; have h3 := h.h3
  ⟨h.at_.only ho (fun b hb e => by omega) (by intro e; omega), h.only.wrote ho h.h3, h.b2.onlyS ho h.ne, hb, h.rw_, h.gw, h.h2, h.h3, h.ne⟩

theorem RIn.done {w W W' : World} {Q g2 g3 : Nat} {l r : List UInt8} {c3 : Array Value} (h : RIn w Q G a cap g2 g3 l r c3 W) (ho : OnlyS (fun b => b = g2) W W') : RAt W' Q G a cap l r ∧ Only Q w W' :=
  have h0 := h.rw_; have h1 := h.gw; have h2 := h.h2
  ⟨h.at_.only ho (fun b hb e => by omega) (by intro e; omega), h.only.wrote ho h.h2⟩

/-- Behind a reading that failed the reader is of no use. -/
theorem RIn.fell {w W W' : World} {Q g2 g3 : Nat} {l r : List UInt8} {c3 : Array Value} (h : RIn w Q G a cap g2 g3 l r c3 W) (ho : Only Q W W') : Only Q w W' ∧ Blk W' g2 42 zeroC ∧ Blk W' g3 42 c3 :=
  have h1 := h.rw_; have h2 := h.h2; have h3 := h.h3
  ⟨h.only.trans ho, h.b2.onlyR ho (by omega), h.b3.onlyR ho (by omega)⟩

/-- How the reference's reading of an entry ends. -/
def REnd (G Q : Nat) (a : Option Addr) (cap : Nat) (l r : List UInt8) (w : World) (e : Ending) (w' : World) : Prop :=
  Only Q w w' ∧ match gEnt r with
    | .ok (x, q) => ∃ a' ca b' cb, e = .returned (.tuple #[.agg (entC x a' ca b' cb), .int .i64 0]) ∧ Mine w' w.heap.size x a' ca b' cb ∧ RAt w' Q G a cap l q
    | .error c => e = .returned (.tuple #[.agg zeroC, .int .i64 (c : Int)])

theorem rEnd_err {Q : Nat} {l r : List UInt8} {w w' : World} {c : Nat} (h : gEnt r = .error c) (ho : Only Q w w') : REnd G Q a cap l r w (.returned (.tuple #[.agg zeroC, .int .i64 (c : Int)])) w' := by
  unfold REnd
  rw [h]
  exact ⟨ho, rfl⟩

theorem rEnd_ok {Q : Nat} {l r q : List UInt8} {w w' : World} {x : Ent} {a' b' : Option Addr} {ca cb : Nat} (h : gEnt r = .ok (x, q)) (ho : Only Q w w') (hm : Mine w' w.heap.size x a' ca b' cb) (ha : RAt w' Q G a cap l q) :
    REnd G Q a cap l r w (.returned (.tuple #[.agg (entC x a' ca b' cb), .int .i64 0])) w' := by
  unfold REnd
  rw [h]
  exact ⟨ho, _, _, _, _, rfl, hm, ha⟩

theorem ret_entry {fn : Func} {p u : Tmp} (h : fn.results = #[.cell p 42, .tmp u]) (tmps : Array Value) (W : World) (g : Nat) (cs : Array Value) (c : Value) (hs : cs.size = 6) (hp : tmps.getD p undef = .pointer (some ⟨g, 0, none⟩)) (hc : tmps.getD u undef = c) (hb : Blk W g 42 cs) :
    (results fn tmps).run Try.prog W = .ok (.tuple #[.agg cs, c]) W := by
  have h6 : (Try.prog.info? 42).map (·.size) = some 6 := by kernel_rfl
  have hl := run_loadVar_row (P := Try.prog) W g 42 42 cs (0, 0) _ hb Try.underlying42 rfl (by rw [hs]; exact h6)
  rw [results_cell_tmp h, hp, hc]
  simp [asAddr, Result.andThen, hl]

set_option maxHeartbeats 8000000 in
set_option maxRecDepth 100000 in
theorem refread_any {Q : Nat} {l r : List UInt8} {w : World} (h : RAt w Q G a cap l r) :
    Calls Try.prog 59 #[.pointer (some ⟨Q, 0, none⟩)] w (REnd G Q a cap l r w) := by
  have hlt := h.lt
  have hz0 : (((0 : Nat) : Int) != 0) = false := rfl
  have b1 : Below w.heap.size w ((w.alloc (.cells zeroC 42)).alloc (.cells zeroC 42)) := ((Below.refl _ _).alloc (Nat.le_refl _) _).alloc (by simp) _
  have hI : RIn w Q G a cap w.heap.size (w.heap.size + 1) l r zeroC ((w.alloc (.cells zeroC 42)).alloc (.cells zeroC 42)) :=
    ⟨h.below b1, Only.of_below b1, (Blk.new w _ _).alloc _, by have := Blk.new (w.alloc (.cells zeroC 42)) 42 zeroC; simpa using this, hlt.1, hlt.2, Nat.le_refl _, by omega, by omega⟩
  have HI0 := Lib.hid hI
  clear h b1 hI
  cases hn : gNum r with
  | error c =>
    have hc := gNum_err hn
    have hcz : ((c : Int) != 0) = true := by simp; omega
    have HE := Lib.hid (show gEnt r = .error c by simp only [gEnt, hn])
    have HN := Lib.hid (refreadNum_bad HI0.out.at_ hn)
    clear hn hc
    go_enter Try.func59, Try.ntmps59
    go_wp2_with fail
    refine HN.out.mono ?_
    rintro e w2 ⟨rfl, ho⟩
    have HOf := Lib.hid (HI0.out.fell ho).1
    have HF2 := Lib.hid (HI0.out.fell ho).2.1
    clear ho
    go_wp2_with (refine wpList_store_all rfl 42 (.tmp 2) (.tmp 15) rfl w.heap.size #[.int .u64 0, .int .i64 0, .int .u64 0, .int .u64 0, .slice none 0 0, .slice none 0 0] rfl rfl 42 zeroC HF2.out (by kernel_rfl) rfl (by simp [Value.oneCell']) ?_; intro wz hbz hoz; (have HBz := Lib.hid hbz); (have HOz := Lib.hid (HOf.out.wrote hoz (Nat.le_refl _))); clear hbz hoz)
    exact bodyPost_ret (v := .tuple #[.agg zeroC, .int .i64 (c : Int)]) (ret_entry rfl _ _ w.heap.size zeroC _ rfl rfl rfl HBz.out) rfl (rEnd_err HE.out HOz.out)
  | ok p =>
    obtain ⟨t, q⟩ := p
    have ht64 := (gNum_back hn).1
    have HN := Lib.hid (refreadNum_ok HI0.out.at_ hn)
    have hge : ∀ x, (1 ≤ t ∧ t ≤ 4611686018427387904) → gKind t q = x → gEnt r = x := fun x h e => by simp only [gEnt, hn, if_pos h, e]
    have hgb : ¬ (1 ≤ t ∧ t ≤ 4611686018427387904) → gEnt r = .error 3 := fun h => by simp only [gEnt, hn, if_neg h]
    have HGe := Lib.hid hge
    have HGb := Lib.hid hgb
    clear hn hge hgb
    by_cases htl : 1 ≤ t
    · by_cases hth : t ≤ 4611686018427387904
      · have d1 : decide ((t : Int) < 1) = false := by simp; omega
        have d2 : decide ((4611686018427387904 : Int) < (t : Int)) = false := by simp; omega
        have HG := Lib.hid (fun x e => HGe.out x ⟨htl, hth⟩ e)
        clear HGe HGb
        cases hb : gByte q with
        | error c =>
          have hc : c = 2 := by cases q <;> simp [gByte] at hb; exact hb.symm
          subst hc
          have HE := Lib.hid (HG.out (.error 2) (by simp only [gKind, hb]))
          have HBy := Lib.hid (fun W (h : RAt W Q G a cap l q) => refreadByte_bad h hb)
          clear hb
          go_enter Try.func59, Try.ntmps59
          go_wp2_with fail
          refine HN.out.mono ?_
          rintro e w2 ⟨rfl, ha, ho⟩
          have HI2 := Lib.hid (HI0.out.call ha ho)
          have HOf := Lib.hid HI2.out.only
          clear ha ho
          go_wp2_with (refine wpList_store_fld rfl 22 (.tmp 25) (.tmp 24) rfl (w.heap.size + 1) 0 (.int .u64 (t : Int)) rfl rfl 42 _ #[.int .u64 (t : Int), .int .i64 0, .int .u64 0, .int .u64 0, .slice none 0 0, .slice none 0 0] HI2.out.b3 (by simp [zeroC]) rfl (by kernel_rfl) rfl ?_; intro w3 hb hos; (have HI3 := Lib.hid (HI2.out.set hb hos)); clear hb hos)
          refine (HBy.out _ HI3.out.at_).mono ?_
          rintro e w4 ⟨rfl, ho⟩
          have HF2 := Lib.hid (HI3.out.fell ho).2.1
          have HO4 := Lib.hid (HI3.out.fell ho).1
          clear HOf ho
          have HOf := HO4
          have h2z : (((2 : Nat) : Int) != 0) = true := rfl
          go_wp2_with (refine wpList_store_all rfl 42 (.tmp 2) (.tmp 33) rfl w.heap.size #[.int .u64 0, .int .i64 0, .int .u64 0, .int .u64 0, .slice none 0 0, .slice none 0 0] rfl rfl 42 zeroC HF2.out (by kernel_rfl) rfl (by simp [Value.oneCell']) ?_; intro wz hbz hoz; (have HBz := Lib.hid hbz); (have HOz := Lib.hid (HOf.out.wrote hoz (Nat.le_refl _))); clear hbz hoz)
          exact bodyPost_ret (v := .tuple #[.agg zeroC, .int .i64 ((2 : Nat) : Int)]) (ret_entry rfl _ _ w.heap.size zeroC _ rfl rfl rfl HBz.out) rfl (rEnd_err HE.out HOz.out)
        | ok p =>
          obtain ⟨k, q2⟩ := p
          have hk := (gByte_back hb).1
          have HBy := Lib.hid (fun W (h : RAt W Q G a cap l q) => refreadByte_ok h hb)
          have hcv := conv_byte k hk
          have hgk : ∀ x, (if k = 1 then .ok (⟨t, 1, 0, 0, [], []⟩, q2) else if k = 2 then gPut t q2 else if k = 3 then gConf t q2 else .error 3) = x → gEnt r = x := fun x e => HG.out x (by simp only [gKind, hb, e])
          have HGk := Lib.hid hgk
          clear hb hgk
          by_cases k1' : k = 1
          · subst k1'
            have HE := Lib.hid (HGk.out _ (if_pos rfl))
            clear HG HGk
            go_enter Try.func59, Try.ntmps59
            go_wp2_with fail
            refine HN.out.mono ?_
            rintro e w2 ⟨rfl, ha, ho⟩
            have HI2 := Lib.hid (HI0.out.call ha ho)
            have HOf := Lib.hid HI2.out.only
            clear ha ho
            go_wp2_with (refine wpList_store_fld rfl 22 (.tmp 25) (.tmp 24) rfl (w.heap.size + 1) 0 (.int .u64 (t : Int)) rfl rfl 42 _ #[.int .u64 (t : Int), .int .i64 0, .int .u64 0, .int .u64 0, .slice none 0 0, .slice none 0 0] HI2.out.b3 (by simp [zeroC]) rfl (by kernel_rfl) rfl ?_; intro w3 hb hos; (have HI3 := Lib.hid (HI2.out.set hb hos)); clear hb hos)
            refine (HBy.out _ HI3.out.at_).mono ?_
            rintro e w4 ⟨rfl, ha, ho⟩
            have HI4 := Lib.hid (HI3.out.call ha ho)
            clear ha ho HOf
            go_wp2_with (first | (refine wpList_store_fld rfl 3 (.tmp 44) (.tmp 43) rfl (w.heap.size + 1) 1 (.int .i64 (((1 : Nat) : Int))) rfl rfl 42 _ #[.int .u64 (t : Int), .int .i64 (((1 : Nat) : Int)), .int .u64 0, .int .u64 0, .slice none 0 0, .slice none 0 0] HI4.out.b3 (by simp) rfl (by kernel_rfl) rfl ?_; intro w7 hb hos; (have HI7 := Lib.hid (HI4.out.set hb hos)); (have k1 : w7.cell? ⟨w.heap.size + 1, 1, none⟩ = some (.int .i64 (((1 : Nat) : Int))) := by rw [hb.cell]; rfl); clear hb hos) | (refine wpList_load_by rfl 42 (.tmp 4) rfl _ _ rfl (HI7.out.b3.loads 42 _ Try.underlying42 rfl (by kernel_rfl)) ?_) | (refine wpList_store_all rfl 42 (.tmp 2) (.tmp 91) rfl w.heap.size #[.int .u64 (t : Int), .int .i64 (((1 : Nat) : Int)), .int .u64 0, .int .u64 0, .slice none 0 0, .slice none 0 0] rfl rfl 42 zeroC HI7.out.b2 (by kernel_rfl) rfl (by simp [Value.oneCell']) ?_; intro wz hbz hoz; (have HBz := Lib.hid hbz); (have HDz := Lib.hid (HI7.out.done hoz)); clear hbz hoz))
            exact bodyPost_ret (v := .tuple #[.agg #[.int .u64 (t : Int), .int .i64 (((1 : Nat) : Int)), .int .u64 0, .int .u64 0, .slice none 0 0, .slice none 0 0], .int .i64 0]) (ret_entry rfl _ _ w.heap.size #[.int .u64 (t : Int), .int .i64 (((1 : Nat) : Int)), .int .u64 0, .int .u64 0, .slice none 0 0, .slice none 0 0] _ rfl rfl rfl HBz.out) rfl (rEnd_ok HE.out HDz.out.2 ⟨⟨ht64, by simp, by simp, by simp, by simp, by simp⟩, World.ownsRow_nil _ _ _ _, World.ownsRow_nil _ _ _ _, by simp, by simp⟩ HDz.out.1)
          · by_cases k2' : k = 2
            · subst k2'
              have hgp : ∀ x, gPut t q2 = x → gEnt r = x := fun x e => HGk.out x (by rw [if_neg (by decide), if_pos rfl, e])
              have HGp := Lib.hid hgp
              clear HG HGk hgp k1'
              cases hc : gNum q2 with
              | error x =>
                have hx := gNum_err hc
                have hcz : ((x : Int) != 0) = true := by simp; omega
                have HE := Lib.hid (HGp.out (.error x) (by simp only [gPut, hc]))
                have HNc := Lib.hid (fun W (h : RAt W Q G a cap l q2) => refreadNum_bad h hc)
                clear hc hx
                go_enter Try.func59, Try.ntmps59
                go_wp2_with fail
                refine HN.out.mono ?_
                rintro e w2 ⟨rfl, ha, ho⟩
                have HI2 := Lib.hid (HI0.out.call ha ho)
                have HOf := Lib.hid HI2.out.only
                clear ha ho
                go_wp2_with (refine wpList_store_fld rfl 22 (.tmp 25) (.tmp 24) rfl (w.heap.size + 1) 0 (.int .u64 (t : Int)) rfl rfl 42 _ #[.int .u64 (t : Int), .int .i64 0, .int .u64 0, .int .u64 0, .slice none 0 0, .slice none 0 0] HI2.out.b3 (by simp [zeroC]) rfl (by kernel_rfl) rfl ?_; intro w3 hb hos; (have HI3 := Lib.hid (HI2.out.set hb hos)); clear hb hos)
                refine (HBy.out _ HI3.out.at_).mono ?_
                rintro e w4 ⟨rfl, ha, ho⟩
                have HI4 := Lib.hid (HI3.out.call ha ho)
                clear ha ho HOf
                go_wp2_with (refine wpList_store_fld rfl 3 (.tmp 44) (.tmp 43) rfl (w.heap.size + 1) 1 (.int .i64 (((2 : Nat) : Int))) rfl rfl 42 _ #[.int .u64 (t : Int), .int .i64 (((2 : Nat) : Int)), .int .u64 0, .int .u64 0, .slice none 0 0, .slice none 0 0] HI4.out.b3 (by simp) rfl (by kernel_rfl) rfl ?_; intro w7 hb hos; (have HI7 := Lib.hid (HI4.out.set hb hos)); (have k1 : w7.cell? ⟨w.heap.size + 1, 1, none⟩ = some (.int .i64 (((2 : Nat) : Int))) := by rw [hb.cell]; rfl); clear hb hos)
                refine (HNc.out _ HI7.out.at_).mono ?_
                rintro e wf ⟨rfl, ho⟩
                have HOf := Lib.hid (HI7.out.fell ho).1
                have HF2 := Lib.hid (HI7.out.fell ho).2.1
                have HF3 := Lib.hid (HI7.out.fell ho).2.2
                clear ho
                go_wp2_with (first | (refine wpList_store_fld rfl 22 (.tmp 53) (.tmp 51) rfl (w.heap.size + 1) 2 (.int .u64 0) rfl rfl 42 _ #[.int .u64 (t : Int), .int .i64 (((2 : Nat) : Int)), .int .u64 0, .int .u64 0, .slice none 0 0, .slice none 0 0] HF3.out (by simp) rfl (by kernel_rfl) rfl ?_; intro wy hb hos; (have HOy := Lib.hid (HOf.out.wrote hos (Nat.le_succ _))); (have HY2 := Lib.hid (HF2.out.onlyS hos (by omega))); clear hb hos) | (refine wpList_store_all rfl 42 (.tmp 2) (.tmp 56) rfl w.heap.size #[.int .u64 0, .int .i64 0, .int .u64 0, .int .u64 0, .slice none 0 0, .slice none 0 0] rfl rfl 42 zeroC HY2.out (by kernel_rfl) rfl (by simp [Value.oneCell']) ?_; intro wz hbz hoz; (have HBz := Lib.hid hbz); (have HOz := Lib.hid (HOy.out.wrote hoz (Nat.le_refl _))); clear hbz hoz))
                exact bodyPost_ret (v := .tuple #[.agg zeroC, .int .i64 (x : Int)]) (ret_entry rfl _ _ w.heap.size zeroC _ rfl rfl rfl HBz.out) rfl (rEnd_err HE.out HOz.out)
              | ok p =>
                obtain ⟨c, q3⟩ := p
                have hc64 := (gNum_back hc).1
                have HNc := Lib.hid (fun W (h : RAt W Q G a cap l q2) => refreadNum_ok h hc)
                cases hs : gNum q3 with
                | error x =>
                  have hx := gNum_err hs
                  have hcz : ((x : Int) != 0) = true := by simp; omega
                  have HE := Lib.hid (HGp.out (.error x) (by simp only [gPut, hc, hs]))
                  have HNs := Lib.hid (fun W (h : RAt W Q G a cap l q3) => refreadNum_bad h hs)
                  clear hc hs hx
                  go_enter Try.func59, Try.ntmps59
                  go_wp2_with fail
                  refine HN.out.mono ?_
                  rintro e w2 ⟨rfl, ha, ho⟩
                  have HI2 := Lib.hid (HI0.out.call ha ho)
                  have HOf := Lib.hid HI2.out.only
                  clear ha ho
                  go_wp2_with (refine wpList_store_fld rfl 22 (.tmp 25) (.tmp 24) rfl (w.heap.size + 1) 0 (.int .u64 (t : Int)) rfl rfl 42 _ #[.int .u64 (t : Int), .int .i64 0, .int .u64 0, .int .u64 0, .slice none 0 0, .slice none 0 0] HI2.out.b3 (by simp [zeroC]) rfl (by kernel_rfl) rfl ?_; intro w3 hb hos; (have HI3 := Lib.hid (HI2.out.set hb hos)); clear hb hos)
                  refine (HBy.out _ HI3.out.at_).mono ?_
                  rintro e w4 ⟨rfl, ha, ho⟩
                  have HI4 := Lib.hid (HI3.out.call ha ho)
                  clear ha ho HOf
                  go_wp2_with (refine wpList_store_fld rfl 3 (.tmp 44) (.tmp 43) rfl (w.heap.size + 1) 1 (.int .i64 (((2 : Nat) : Int))) rfl rfl 42 _ #[.int .u64 (t : Int), .int .i64 (((2 : Nat) : Int)), .int .u64 0, .int .u64 0, .slice none 0 0, .slice none 0 0] HI4.out.b3 (by simp) rfl (by kernel_rfl) rfl ?_; intro w7 hb hos; (have HI7 := Lib.hid (HI4.out.set hb hos)); (have k1 : w7.cell? ⟨w.heap.size + 1, 1, none⟩ = some (.int .i64 (((2 : Nat) : Int))) := by rw [hb.cell]; rfl); clear hb hos)
                  refine (HNc.out _ HI7.out.at_).mono ?_
                  rintro e w8 ⟨rfl, ha, ho⟩
                  have HI8 := Lib.hid (HI7.out.call ha ho)
                  clear ha ho k1
                  go_wp2_with (refine wpList_store_fld rfl 22 (.tmp 53) (.tmp 51) rfl (w.heap.size + 1) 2 (.int .u64 (c : Int)) rfl rfl 42 _ #[.int .u64 (t : Int), .int .i64 (((2 : Nat) : Int)), .int .u64 (c : Int), .int .u64 0, .slice none 0 0, .slice none 0 0] HI8.out.b3 (by simp) rfl (by kernel_rfl) rfl ?_; intro w10 hb hos; (have HI10 := Lib.hid (HI8.out.set hb hos)); clear hb hos)
                  refine (HNs.out _ HI10.out.at_).mono ?_
                  rintro e wf ⟨rfl, ho⟩
                  have HOf := Lib.hid (HI10.out.fell ho).1
                  have HF2 := Lib.hid (HI10.out.fell ho).2.1
                  have HF3 := Lib.hid (HI10.out.fell ho).2.2
                  clear ho
                  go_wp2_with (first | (refine wpList_store_fld rfl 22 (.tmp 63) (.tmp 61) rfl (w.heap.size + 1) 3 (.int .u64 0) rfl rfl 42 _ #[.int .u64 (t : Int), .int .i64 (((2 : Nat) : Int)), .int .u64 (c : Int), .int .u64 0, .slice none 0 0, .slice none 0 0] HF3.out (by simp) rfl (by kernel_rfl) rfl ?_; intro wy hb hos; (have HOy := Lib.hid (HOf.out.wrote hos (Nat.le_succ _))); (have HY2 := Lib.hid (HF2.out.onlyS hos (by omega))); clear hb hos) | (refine wpList_store_all rfl 42 (.tmp 2) (.tmp 66) rfl w.heap.size #[.int .u64 0, .int .i64 0, .int .u64 0, .int .u64 0, .slice none 0 0, .slice none 0 0] rfl rfl 42 zeroC HY2.out (by kernel_rfl) rfl (by simp [Value.oneCell']) ?_; intro wz hbz hoz; (have HBz := Lib.hid hbz); (have HOz := Lib.hid (HOy.out.wrote hoz (Nat.le_refl _))); clear hbz hoz))
                  exact bodyPost_ret (v := .tuple #[.agg zeroC, .int .i64 (x : Int)]) (ret_entry rfl _ _ w.heap.size zeroC _ rfl rfl rfl HBz.out) rfl (rEnd_err HE.out HOz.out)
                | ok p =>
                  obtain ⟨s, q4⟩ := p
                  have hs64 := (gNum_back hs).1
                  have HNs := Lib.hid (fun W (h : RAt W Q G a cap l q3) => refreadNum_ok h hs)
                  cases hd : gText 64 q4 with
                  | error x =>
                    have hx := gText_err hd
                    have hcz : ((x : Int) != 0) = true := by simp; omega
                    have HE := Lib.hid (HGp.out (.error x) (by simp only [gPut, hc, hs, hd]))
                    have HNd := Lib.hid (fun W (h : RAt W Q G a cap l q4) => refreadRaw_bad h hd)
                    clear hc hs hd hx
                    go_enter Try.func59, Try.ntmps59
                    go_wp2_with fail
                    refine HN.out.mono ?_
                    rintro e w2 ⟨rfl, ha, ho⟩
                    have HI2 := Lib.hid (HI0.out.call ha ho)
                    have HOf := Lib.hid HI2.out.only
                    clear ha ho
                    go_wp2_with (refine wpList_store_fld rfl 22 (.tmp 25) (.tmp 24) rfl (w.heap.size + 1) 0 (.int .u64 (t : Int)) rfl rfl 42 _ #[.int .u64 (t : Int), .int .i64 0, .int .u64 0, .int .u64 0, .slice none 0 0, .slice none 0 0] HI2.out.b3 (by simp [zeroC]) rfl (by kernel_rfl) rfl ?_; intro w3 hb hos; (have HI3 := Lib.hid (HI2.out.set hb hos)); clear hb hos)
                    refine (HBy.out _ HI3.out.at_).mono ?_
                    rintro e w4 ⟨rfl, ha, ho⟩
                    have HI4 := Lib.hid (HI3.out.call ha ho)
                    clear ha ho HOf
                    go_wp2_with (refine wpList_store_fld rfl 3 (.tmp 44) (.tmp 43) rfl (w.heap.size + 1) 1 (.int .i64 (((2 : Nat) : Int))) rfl rfl 42 _ #[.int .u64 (t : Int), .int .i64 (((2 : Nat) : Int)), .int .u64 0, .int .u64 0, .slice none 0 0, .slice none 0 0] HI4.out.b3 (by simp) rfl (by kernel_rfl) rfl ?_; intro w7 hb hos; (have HI7 := Lib.hid (HI4.out.set hb hos)); (have k1 : w7.cell? ⟨w.heap.size + 1, 1, none⟩ = some (.int .i64 (((2 : Nat) : Int))) := by rw [hb.cell]; rfl); clear hb hos)
                    refine (HNc.out _ HI7.out.at_).mono ?_
                    rintro e w8 ⟨rfl, ha, ho⟩
                    have HI8 := Lib.hid (HI7.out.call ha ho)
                    clear ha ho k1
                    go_wp2_with (refine wpList_store_fld rfl 22 (.tmp 53) (.tmp 51) rfl (w.heap.size + 1) 2 (.int .u64 (c : Int)) rfl rfl 42 _ #[.int .u64 (t : Int), .int .i64 (((2 : Nat) : Int)), .int .u64 (c : Int), .int .u64 0, .slice none 0 0, .slice none 0 0] HI8.out.b3 (by simp) rfl (by kernel_rfl) rfl ?_; intro w10 hb hos; (have HI10 := Lib.hid (HI8.out.set hb hos)); clear hb hos)
                    refine (HNs.out _ HI10.out.at_).mono ?_
                    rintro e w11 ⟨rfl, ha, ho⟩
                    have HI11 := Lib.hid (HI10.out.call ha ho)
                    clear ha ho
                    go_wp2_with (refine wpList_store_fld rfl 22 (.tmp 63) (.tmp 61) rfl (w.heap.size + 1) 3 (.int .u64 (s : Int)) rfl rfl 42 _ #[.int .u64 (t : Int), .int .i64 (((2 : Nat) : Int)), .int .u64 (c : Int), .int .u64 (s : Int), .slice none 0 0, .slice none 0 0] HI11.out.b3 (by simp) rfl (by kernel_rfl) rfl ?_; intro w13 hb hos; (have HI13 := Lib.hid (HI11.out.set hb hos)); clear hb hos)
                    refine (HNd.out _ HI13.out.at_).mono ?_
                    rintro e wf ⟨v, rfl, hv, ho⟩
                    obtain ⟨av, cv, rfl⟩ : ∃ av cv, v = .slice av 0 cv := by
                      obtain ⟨av, rfl | ⟨cv, rfl⟩⟩ := hv
                      · exact ⟨_, _, rfl⟩
                      · exact ⟨_, _, rfl⟩
                    clear hv
                    have HOf := Lib.hid (HI13.out.fell ho).1
                    have HF2 := Lib.hid (HI13.out.fell ho).2.1
                    have HF3 := Lib.hid (HI13.out.fell ho).2.2
                    clear ho
                    go_wp2_with (first | (refine wpList_store_fld rfl 25 (.tmp 73) (.tmp 71) rfl (w.heap.size + 1) 4 (.slice av 0 cv) rfl rfl 42 _ #[.int .u64 (t : Int), .int .i64 (((2 : Nat) : Int)), .int .u64 (c : Int), .int .u64 (s : Int), .slice av 0 cv, .slice none 0 0] HF3.out (by simp) rfl (by kernel_rfl) rfl ?_; intro wy hb hos; (have HOy := Lib.hid (HOf.out.wrote hos (Nat.le_succ _))); (have HY2 := Lib.hid (HF2.out.onlyS hos (by omega))); clear hb hos) | (refine wpList_store_all rfl 42 (.tmp 2) (.tmp 76) rfl w.heap.size #[.int .u64 0, .int .i64 0, .int .u64 0, .int .u64 0, .slice none 0 0, .slice none 0 0] rfl rfl 42 zeroC HY2.out (by kernel_rfl) rfl (by simp [Value.oneCell']) ?_; intro wz hbz hoz; (have HBz := Lib.hid hbz); (have HOz := Lib.hid (HOy.out.wrote hoz (Nat.le_refl _))); clear hbz hoz))
                    exact bodyPost_ret (v := .tuple #[.agg zeroC, .int .i64 (x : Int)]) (ret_entry rfl _ _ w.heap.size zeroC _ rfl rfl rfl HBz.out) rfl (rEnd_err HE.out HOz.out)
                  | ok p =>
                    obtain ⟨d, q5⟩ := p
                    have hd64 := (gText_back hd).1
                    have HE := Lib.hid (HGp.out (.ok (⟨t, 2, c, s, d, []⟩, q5)) (by simp only [gPut, hc, hs, hd]))
                    have HNd := Lib.hid (fun W (h : RAt W Q G a cap l q4) => refreadRaw_ok h hd)
                    clear hc hs hd
                    go_enter Try.func59, Try.ntmps59
                    go_wp2_with fail
                    refine HN.out.mono ?_
                    rintro e w2 ⟨rfl, ha, ho⟩
                    have HI2 := Lib.hid (HI0.out.call ha ho)
                    have HOf := Lib.hid HI2.out.only
                    clear ha ho
                    go_wp2_with (refine wpList_store_fld rfl 22 (.tmp 25) (.tmp 24) rfl (w.heap.size + 1) 0 (.int .u64 (t : Int)) rfl rfl 42 _ #[.int .u64 (t : Int), .int .i64 0, .int .u64 0, .int .u64 0, .slice none 0 0, .slice none 0 0] HI2.out.b3 (by simp [zeroC]) rfl (by kernel_rfl) rfl ?_; intro w3 hb hos; (have HI3 := Lib.hid (HI2.out.set hb hos)); clear hb hos)
                    refine (HBy.out _ HI3.out.at_).mono ?_
                    rintro e w4 ⟨rfl, ha, ho⟩
                    have HI4 := Lib.hid (HI3.out.call ha ho)
                    clear ha ho HOf
                    go_wp2_with (refine wpList_store_fld rfl 3 (.tmp 44) (.tmp 43) rfl (w.heap.size + 1) 1 (.int .i64 (((2 : Nat) : Int))) rfl rfl 42 _ #[.int .u64 (t : Int), .int .i64 (((2 : Nat) : Int)), .int .u64 0, .int .u64 0, .slice none 0 0, .slice none 0 0] HI4.out.b3 (by simp) rfl (by kernel_rfl) rfl ?_; intro w7 hb hos; (have HI7 := Lib.hid (HI4.out.set hb hos)); (have k1 : w7.cell? ⟨w.heap.size + 1, 1, none⟩ = some (.int .i64 (((2 : Nat) : Int))) := by rw [hb.cell]; rfl); clear hb hos)
                    refine (HNc.out _ HI7.out.at_).mono ?_
                    rintro e w8 ⟨rfl, ha, ho⟩
                    have HI8 := Lib.hid (HI7.out.call ha ho)
                    clear ha ho k1
                    go_wp2_with (refine wpList_store_fld rfl 22 (.tmp 53) (.tmp 51) rfl (w.heap.size + 1) 2 (.int .u64 (c : Int)) rfl rfl 42 _ #[.int .u64 (t : Int), .int .i64 (((2 : Nat) : Int)), .int .u64 (c : Int), .int .u64 0, .slice none 0 0, .slice none 0 0] HI8.out.b3 (by simp) rfl (by kernel_rfl) rfl ?_; intro w10 hb hos; (have HI10 := Lib.hid (HI8.out.set hb hos)); clear hb hos)
                    refine (HNs.out _ HI10.out.at_).mono ?_
                    rintro e w11 ⟨rfl, ha, ho⟩
                    have HI11 := Lib.hid (HI10.out.call ha ho)
                    clear ha ho
                    go_wp2_with (refine wpList_store_fld rfl 22 (.tmp 63) (.tmp 61) rfl (w.heap.size + 1) 3 (.int .u64 (s : Int)) rfl rfl 42 _ #[.int .u64 (t : Int), .int .i64 (((2 : Nat) : Int)), .int .u64 (c : Int), .int .u64 (s : Int), .slice none 0 0, .slice none 0 0] HI11.out.b3 (by simp) rfl (by kernel_rfl) rfl ?_; intro w13 hb hos; (have HI13 := Lib.hid (HI11.out.set hb hos)); clear hb hos)
                    refine (HNd.out _ HI13.out.at_).mono ?_
                    rintro e w14 ⟨v, rfl, hr, ha, ho⟩
                    obtain ⟨ad, cd, rfl⟩ := slice_of_row hr
                    have HI14 := Lib.hid (HI13.out.call ha ho)
                    have HR14 := Lib.hid (row_low hr HI13.out.only.size)
                    clear ha ho hr
                    go_wp2_with (first | (refine wpList_store_fld rfl 25 (.tmp 73) (.tmp 71) rfl (w.heap.size + 1) 4 (.slice ad d.length cd) rfl rfl 42 _ #[.int .u64 (t : Int), .int .i64 (((2 : Nat) : Int)), .int .u64 (c : Int), .int .u64 (s : Int), .slice ad d.length cd, .slice none 0 0] HI14.out.b3 (by simp) rfl (by kernel_rfl) rfl ?_; intro w16 hb hos; (have HI16 := Lib.hid (HI14.out.set hb hos)); (have k1 : w16.cell? ⟨w.heap.size + 1, 1, none⟩ = some (.int .i64 (((2 : Nat) : Int))) := by rw [hb.cell]; rfl); (have HR16 := Lib.hid (row_wrote HR14.out HI14.out.b3 hos)); clear hb hos) | (refine wpList_load_by rfl 42 (.tmp 4) rfl _ _ rfl (HI16.out.b3.loads 42 _ Try.underlying42 rfl (by kernel_rfl)) ?_) | (refine wpList_store_all rfl 42 (.tmp 2) (.tmp 91) rfl w.heap.size #[.int .u64 (t : Int), .int .i64 (((2 : Nat) : Int)), .int .u64 (c : Int), .int .u64 (s : Int), .slice ad d.length cd, .slice none 0 0] rfl rfl 42 zeroC HI16.out.b2 (by kernel_rfl) rfl (by simp [Value.oneCell']) ?_; intro wz hbz hoz; (have HBz := Lib.hid hbz); (have HDz := Lib.hid (HI16.out.done hoz)); (have HRz := Lib.hid (row_wrote HR16.out HI16.out.b2 hoz)); clear hbz hoz))
                    exact bodyPost_ret (v := .tuple #[.agg #[.int .u64 (t : Int), .int .i64 (((2 : Nat) : Int)), .int .u64 (c : Int), .int .u64 (s : Int), .slice ad d.length cd, .slice none 0 0], .int .i64 0]) (ret_entry rfl _ _ w.heap.size #[.int .u64 (t : Int), .int .i64 (((2 : Nat) : Int)), .int .u64 (c : Int), .int .u64 (s : Int), .slice ad d.length cd, .slice none 0 0] _ rfl rfl rfl HBz.out) rfl (rEnd_ok HE.out HDz.out.2 ⟨⟨ht64, by simp, by simp, hc64, hs64, by simp⟩, HRz.out, World.ownsRow_nil _ _ _ _, hd64, by simp⟩ HDz.out.1)
            · by_cases k3' : k = 3
              · subst k3'
                have hgp : ∀ x, gConf t q2 = x → gEnt r = x := fun x e => HGk.out x (by rw [if_neg (by decide), if_neg (by decide), if_pos rfl, e])
                have HGp := Lib.hid hgp
                have HMe := Lib.hid (fun W (h : RAt W Q G a cap l q2) => ids_any h)
                clear HG HGk hgp k1' k2'
                cases hm : gMem q2 with
                | error x =>
                  have hx := gMem_err hm
                  have hcz : ((x : Int) != 0) = true := by simp; omega
                  have HE := Lib.hid (HGp.out (.error x) (by simp only [gConf, hm]))
                  have HGm := Lib.hid hm
                  clear hm hx
                  go_enter Try.func59, Try.ntmps59
                  go_wp2_with fail
                  refine HN.out.mono ?_
                  rintro e w2 ⟨rfl, ha, ho⟩
                  have HI2 := Lib.hid (HI0.out.call ha ho)
                  have HOf := Lib.hid HI2.out.only
                  clear ha ho
                  go_wp2_with (refine wpList_store_fld rfl 22 (.tmp 25) (.tmp 24) rfl (w.heap.size + 1) 0 (.int .u64 (t : Int)) rfl rfl 42 _ #[.int .u64 (t : Int), .int .i64 0, .int .u64 0, .int .u64 0, .slice none 0 0, .slice none 0 0] HI2.out.b3 (by simp [zeroC]) rfl (by kernel_rfl) rfl ?_; intro w3 hb hos; (have HI3 := Lib.hid (HI2.out.set hb hos)); clear hb hos)
                  refine (HBy.out _ HI3.out.at_).mono ?_
                  rintro e w4 ⟨rfl, ha, ho⟩
                  have HI4 := Lib.hid (HI3.out.call ha ho)
                  clear ha ho HOf
                  go_wp2_with (refine wpList_store_fld rfl 3 (.tmp 44) (.tmp 43) rfl (w.heap.size + 1) 1 (.int .i64 (((3 : Nat) : Int))) rfl rfl 42 _ #[.int .u64 (t : Int), .int .i64 (((3 : Nat) : Int)), .int .u64 0, .int .u64 0, .slice none 0 0, .slice none 0 0] HI4.out.b3 (by simp) rfl (by kernel_rfl) rfl ?_; intro w7 hb hos; (have HI7 := Lib.hid (HI4.out.set hb hos)); (have k1 : w7.cell? ⟨w.heap.size + 1, 1, none⟩ = some (.int .i64 (((3 : Nat) : Int))) := by rw [hb.cell]; rfl); clear hb hos)
                  refine (HMe.out _ HI7.out.at_).mono ?_
                  rintro e wf ⟨ho, hx⟩
                  rw [HGm.out] at hx
                  obtain rfl := hx
                  have HOf := Lib.hid (HI7.out.fell ho).1
                  have HF2 := Lib.hid (HI7.out.fell ho).2.1
                  have HF3 := Lib.hid (HI7.out.fell ho).2.2
                  clear ho
                  go_wp2_with (first | (refine wpList_store_fld rfl 24 (.tmp 86) (.tmp 84) rfl (w.heap.size + 1) 5 (.slice none 0 0) rfl rfl 42 _ #[.int .u64 (t : Int), .int .i64 (((3 : Nat) : Int)), .int .u64 0, .int .u64 0, .slice none 0 0, .slice none 0 0] HF3.out (by simp) rfl (by kernel_rfl) rfl ?_; intro wy hb hos; (have HOy := Lib.hid (HOf.out.wrote hos (Nat.le_succ _))); (have HY2 := Lib.hid (HF2.out.onlyS hos (by omega))); clear hb hos) | (refine wpList_store_all rfl 42 (.tmp 2) (.tmp 89) rfl w.heap.size #[.int .u64 0, .int .i64 0, .int .u64 0, .int .u64 0, .slice none 0 0, .slice none 0 0] rfl rfl 42 zeroC HY2.out (by kernel_rfl) rfl (by simp [Value.oneCell']) ?_; intro wz hbz hoz; (have HBz := Lib.hid hbz); (have HOz := Lib.hid (HOy.out.wrote hoz (Nat.le_refl _))); clear hbz hoz))
                  exact bodyPost_ret (v := .tuple #[.agg zeroC, .int .i64 (x : Int)]) (ret_entry rfl _ _ w.heap.size zeroC _ rfl rfl rfl HBz.out) rfl (rEnd_err HE.out HOz.out)
                | ok p =>
                  obtain ⟨m, q3⟩ := p
                  have HE := Lib.hid (HGp.out (.ok (⟨t, 3, 0, 0, [], m⟩, q3)) (by simp only [gConf, hm]))
                  have hm7 := (memOk_len (gMem_back hm).1).2
                  have hmr : ∀ x ∈ m, x < 18446744073709551616 := fun x hx => by
                    have h := (gMem_back hm).1
                    simp [memOk] at h
                    have := rises_lt m 0 h.2 x hx
                    omega
                  have HMr := Lib.hid hmr
                  have HGm := Lib.hid hm
                  clear hm hmr
                  go_enter Try.func59, Try.ntmps59
                  go_wp2_with fail
                  refine HN.out.mono ?_
                  rintro e w2 ⟨rfl, ha, ho⟩
                  have HI2 := Lib.hid (HI0.out.call ha ho)
                  have HOf := Lib.hid HI2.out.only
                  clear ha ho
                  go_wp2_with (refine wpList_store_fld rfl 22 (.tmp 25) (.tmp 24) rfl (w.heap.size + 1) 0 (.int .u64 (t : Int)) rfl rfl 42 _ #[.int .u64 (t : Int), .int .i64 0, .int .u64 0, .int .u64 0, .slice none 0 0, .slice none 0 0] HI2.out.b3 (by simp [zeroC]) rfl (by kernel_rfl) rfl ?_; intro w3 hb hos; (have HI3 := Lib.hid (HI2.out.set hb hos)); clear hb hos)
                  refine (HBy.out _ HI3.out.at_).mono ?_
                  rintro e w4 ⟨rfl, ha, ho⟩
                  have HI4 := Lib.hid (HI3.out.call ha ho)
                  clear ha ho HOf
                  go_wp2_with (refine wpList_store_fld rfl 3 (.tmp 44) (.tmp 43) rfl (w.heap.size + 1) 1 (.int .i64 (((3 : Nat) : Int))) rfl rfl 42 _ #[.int .u64 (t : Int), .int .i64 (((3 : Nat) : Int)), .int .u64 0, .int .u64 0, .slice none 0 0, .slice none 0 0] HI4.out.b3 (by simp) rfl (by kernel_rfl) rfl ?_; intro w7 hb hos; (have HI7 := Lib.hid (HI4.out.set hb hos)); (have k1 : w7.cell? ⟨w.heap.size + 1, 1, none⟩ = some (.int .i64 (((3 : Nat) : Int))) := by rw [hb.cell]; rfl); clear hb hos)
                  refine (HMe.out _ HI7.out.at_).mono ?_
                  rintro e w8 ⟨ho, hx⟩
                  rw [HGm.out] at hx
                  obtain ⟨v, rfl, hr, ha⟩ := hx
                  obtain ⟨am, cm, rfl⟩ := hr.nums.shape
                  have HI8 := Lib.hid (HI7.out.call ha ho)
                  have HR8 := Lib.hid (nrow_low hr HI7.out.only.size)
                  clear ho hr ha k1
                  go_wp2_with (first | (refine wpList_store_fld rfl 24 (.tmp 86) (.tmp 84) rfl (w.heap.size + 1) 5 (.slice am m.length cm) rfl rfl 42 _ #[.int .u64 (t : Int), .int .i64 (((3 : Nat) : Int)), .int .u64 0, .int .u64 0, .slice none 0 0, .slice am m.length cm] HI8.out.b3 (by simp) rfl (by kernel_rfl) rfl ?_; intro w9 hb hos; (have HI9 := Lib.hid (HI8.out.set hb hos)); (have HR9 := Lib.hid (nrow_wrote HR8.out HI8.out.b3 hos)); clear hb hos) | (refine wpList_load_by rfl 42 (.tmp 4) rfl _ _ rfl (HI9.out.b3.loads 42 _ Try.underlying42 rfl (by kernel_rfl)) ?_) | (refine wpList_store_all rfl 42 (.tmp 2) (.tmp 91) rfl w.heap.size #[.int .u64 (t : Int), .int .i64 (((3 : Nat) : Int)), .int .u64 0, .int .u64 0, .slice none 0 0, .slice am m.length cm] rfl rfl 42 zeroC HI9.out.b2 (by kernel_rfl) rfl (by simp [Value.oneCell']) ?_; intro wz hbz hoz; (have HBz := Lib.hid hbz); (have HDz := Lib.hid (HI9.out.done hoz)); (have HRz := Lib.hid (nrow_wrote HR9.out HI9.out.b2 hoz)); clear hbz hoz))
                  exact bodyPost_ret (v := .tuple #[.agg #[.int .u64 (t : Int), .int .i64 (((3 : Nat) : Int)), .int .u64 0, .int .u64 0, .slice none 0 0, .slice am m.length cm], .int .i64 0]) (ret_entry rfl _ _ w.heap.size #[.int .u64 (t : Int), .int .i64 (((3 : Nat) : Int)), .int .u64 0, .int .u64 0, .slice none 0 0, .slice am m.length cm] _ rfl rfl rfl HBz.out) rfl (rEnd_ok HE.out HDz.out.2 ⟨⟨ht64, by simp, by simp, by simp, by simp, HMr.out⟩, World.ownsRow_nil _ _ _ _, HRz.out, by simp, hm7⟩ HDz.out.1)
              · have HE := Lib.hid (HGk.out (.error 3) (by rw [if_neg k1', if_neg k2', if_neg k3']))
                clear HG HGk
                by_cases k0 : k < 1
                · have e1 : decide ((k : Int) < 1) = true := by simp; omega
                  go_enter Try.func59, Try.ntmps59
                  go_wp2_with fail
                  refine HN.out.mono ?_
                  rintro e w2 ⟨rfl, ha, ho⟩
                  have HI2 := Lib.hid (HI0.out.call ha ho)
                  have HOf := Lib.hid HI2.out.only
                  clear ha ho
                  go_wp2_with (refine wpList_store_fld rfl 22 (.tmp 25) (.tmp 24) rfl (w.heap.size + 1) 0 (.int .u64 (t : Int)) rfl rfl 42 _ #[.int .u64 (t : Int), .int .i64 0, .int .u64 0, .int .u64 0, .slice none 0 0, .slice none 0 0] HI2.out.b3 (by simp [zeroC]) rfl (by kernel_rfl) rfl ?_; intro w3 hb hos; (have HI3 := Lib.hid (HI2.out.set hb hos)); clear hb hos)
                  refine (HBy.out _ HI3.out.at_).mono ?_
                  rintro e w4 ⟨rfl, ha, ho⟩
                  have HI4 := Lib.hid (HI3.out.call ha ho)
                  clear ha ho HOf
                  have HOf := Lib.hid HI4.out.only
                  go_wp2_with (refine wpList_store_all rfl 42 (.tmp 2) (.tmp 41) rfl w.heap.size #[.int .u64 0, .int .i64 0, .int .u64 0, .int .u64 0, .slice none 0 0, .slice none 0 0] rfl rfl 42 zeroC HI4.out.b2 (by kernel_rfl) rfl (by simp [Value.oneCell']) ?_; intro wz hbz hoz; (have HBz := Lib.hid hbz); (have HOz := Lib.hid (HOf.out.wrote hoz (Nat.le_refl _))); clear hbz hoz)
                  exact bodyPost_ret (v := .tuple #[.agg zeroC, .int .i64 ((3 : Nat) : Int)]) (ret_entry rfl _ _ w.heap.size zeroC _ rfl rfl rfl HBz.out) rfl (rEnd_err HE.out HOz.out)
                · have e1 : decide ((k : Int) < 1) = false := by simp; omega
                  have e3 : decide ((3 : Int) < (k : Int)) = true := by simp; omega
                  have e3n : 3 < k := by omega
                  go_enter Try.func59, Try.ntmps59
                  go_wp2_with fail
                  refine HN.out.mono ?_
                  rintro e w2 ⟨rfl, ha, ho⟩
                  have HI2 := Lib.hid (HI0.out.call ha ho)
                  have HOf := Lib.hid HI2.out.only
                  clear ha ho
                  go_wp2_with (refine wpList_store_fld rfl 22 (.tmp 25) (.tmp 24) rfl (w.heap.size + 1) 0 (.int .u64 (t : Int)) rfl rfl 42 _ #[.int .u64 (t : Int), .int .i64 0, .int .u64 0, .int .u64 0, .slice none 0 0, .slice none 0 0] HI2.out.b3 (by simp [zeroC]) rfl (by kernel_rfl) rfl ?_; intro w3 hb hos; (have HI3 := Lib.hid (HI2.out.set hb hos)); clear hb hos)
                  refine (HBy.out _ HI3.out.at_).mono ?_
                  rintro e w4 ⟨rfl, ha, ho⟩
                  have HI4 := Lib.hid (HI3.out.call ha ho)
                  clear ha ho HOf
                  have HOf := Lib.hid HI4.out.only
                  go_wp2_with (refine wpList_store_all rfl 42 (.tmp 2) (.tmp 41) rfl w.heap.size #[.int .u64 0, .int .i64 0, .int .u64 0, .int .u64 0, .slice none 0 0, .slice none 0 0] rfl rfl 42 zeroC HI4.out.b2 (by kernel_rfl) rfl (by simp [Value.oneCell']) ?_; intro wz hbz hoz; (have HBz := Lib.hid hbz); (have HOz := Lib.hid (HOf.out.wrote hoz (Nat.le_refl _))); clear hbz hoz)
                  exact bodyPost_ret (v := .tuple #[.agg zeroC, .int .i64 ((3 : Nat) : Int)]) (ret_entry rfl _ _ w.heap.size zeroC _ rfl rfl rfl HBz.out) rfl (rEnd_err HE.out HOz.out)
      · have d1 : decide ((t : Int) < 1) = false := by simp; omega
        have d2 : decide ((4611686018427387904 : Int) < (t : Int)) = true := by simp; omega
        have d2n : 4611686018427387904 < t := by omega
        have HE := Lib.hid (HGb.out (fun h => hth h.2))
        clear HGe HGb
        go_enter Try.func59, Try.ntmps59
        go_wp2_with fail
        refine HN.out.mono ?_
        rintro e w2 ⟨rfl, ha, ho⟩
        have HI2 := Lib.hid (HI0.out.call ha ho)
        have HOf := Lib.hid HI2.out.only
        clear ha ho
        go_wp2_with (refine wpList_store_all rfl 42 (.tmp 2) (.tmp 23) rfl w.heap.size #[.int .u64 0, .int .i64 0, .int .u64 0, .int .u64 0, .slice none 0 0, .slice none 0 0] rfl rfl 42 zeroC HI2.out.b2 (by kernel_rfl) rfl (by simp [Value.oneCell']) ?_; intro wz hbz hoz; (have HBz := Lib.hid hbz); (have HOz := Lib.hid (HOf.out.wrote hoz (Nat.le_refl _))); clear hbz hoz)
        exact bodyPost_ret (v := .tuple #[.agg zeroC, .int .i64 ((3 : Nat) : Int)]) (ret_entry rfl _ _ w.heap.size zeroC _ rfl rfl rfl HBz.out) rfl (rEnd_err HE.out HOz.out)
    · have d1 : decide ((t : Int) < 1) = true := by simp; omega
      have HE := Lib.hid (HGb.out (fun h => htl h.1))
      clear HGe HGb
      go_enter Try.func59, Try.ntmps59
      go_wp2_with fail
      refine HN.out.mono ?_
      rintro e w2 ⟨rfl, ha, ho⟩
      have HI2 := Lib.hid (HI0.out.call ha ho)
      have HOf := Lib.hid HI2.out.only
      clear ha ho
      go_wp2_with (refine wpList_store_all rfl 42 (.tmp 2) (.tmp 23) rfl w.heap.size #[.int .u64 0, .int .i64 0, .int .u64 0, .int .u64 0, .slice none 0 0, .slice none 0 0] rfl rfl 42 zeroC HI2.out.b2 (by kernel_rfl) rfl (by simp [Value.oneCell']) ?_; intro wz hbz hoz; (have HBz := Lib.hid hbz); (have HOz := Lib.hid (HOf.out.wrote hoz (Nat.le_refl _))); clear hbz hoz)
      exact bodyPost_ret (v := .tuple #[.agg zeroC, .int .i64 ((3 : Nat) : Int)]) (ret_entry rfl _ _ w.heap.size zeroC _ rfl rfl rfl HBz.out) rfl (rEnd_err HE.out HOz.out)

end Go.Proofs.Ytidapdooiibfnaa

/- The reference's Get. -/
namespace Go.Proofs.Ytidapdooiibfnaa
set_option maxRecDepth 20000
open Go.RowKit BinMath CmdMath

/-- A reader of the reference's that was just laid. -/
theorem ref_new {w : World} {v : Option Addr} {len c Q : Nat} {l : List UInt8} {W : World} (hx : Bys w (.slice v len c) l) (hl : l.length ≤ 140737488351232) (hlc : len ≤ c) (hQ : w.heap.size ≤ Q) (hW : Below w.heap.size w W) (hb : Blk W Q 65 #[.slice v len c, .int .i64 0, .int .i64 0]) :
    RAt W Q w.heap.size v c l l := by
  have hlen := (bys_cells hx).1
  subst hlen
  refine ⟨0, ⟨hb, Nat.zero_le _, hl, ⟨hlc, ?_⟩, hQ, ?_⟩, rfl⟩
  · rcases hx with ⟨h, _⟩ | ⟨ad, cap, h, _⟩
    · exact fun _ => (Value.slice.inj h).2.2
    · intro e; rw [(Value.slice.inj h).1] at e; cases e
  · intro i hi
    rcases hx with ⟨h, rfl⟩ | ⟨ad, cap, h, hc⟩
    · simp at hi
    · obtain rfl := (Value.slice.inj h).1
      have hlt := World.block_lt_of_cell? w _ (hc i hi)
      refine ⟨ad, rfl, by rwa [add_block] at hlt, ?_⟩
      rw [hW.cell hlt]
      exact hc i hi

theorem Mine.below {w w' : World} {B : Nat} {e : Ent} {a b : Option Addr} {ca cb : Nat} (h : Mine w B e a ca b cb) (hb : Below w.heap.size w w') : Mine w' B e a ca b cb :=
  ⟨h.ok, ownsRow_keep h.d hb, h.m.keep hb, h.dl, h.ml⟩

theorem Mine.wrote {w w' : World} {B g : Nat} {e : Ent} {a b : Option Addr} {ca cb : Nat} {cs : Array Value} (h : Mine w B e a ca b cb) (hb : Blk w g 42 cs) (ho : OnlyS (fun b => b = g) w w') : Mine w' B e a ca b cb :=
  ⟨h.ok, row_wrote h.d hb ho, nrow_wrote h.m hb ho, h.dl, h.ml⟩

set_option maxHeartbeats 4000000 in
theorem refget_any (v : Option Addr) (len c : Nat) (l : List UInt8) (w : World) (hx : Bys w (.slice v len c) l) (hl : l.length ≤ 140737488351232) (hlc : len ≤ c) :
    Calls Try.prog 38 #[.slice v len c] w (GetEnd l w) := by
  have b1 : Below w.heap.size w ((w.alloc (.cells zeroC 42)).alloc (.cells #[.slice v len c, .int .i64 0, .int .i64 0] 65)) := ((Below.refl _ _).alloc (Nat.le_refl _) _).alloc (by simp) _
  have hA := ref_new (Q := w.heap.size + 1) hx hl hlc (by omega) b1 (by have := Blk.new (w.alloc (.cells zeroC 42)) 65 #[.slice v len c, .int .i64 0, .int .i64 0]; simpa using this)
  have hR := refread_any hA
  have hs1 : ((w.alloc (.cells zeroC 42)).alloc (.cells #[.slice v len c, .int .i64 0, .int .i64 0] 65)).heap.size = w.heap.size + 2 := by simp
  have E2 := Lib.hid (show Blk ((w.alloc (.cells zeroC 42)).alloc (.cells #[.slice v len c, .int .i64 0, .int .i64 0] 65)) w.heap.size 42 zeroC from (Blk.new w _ _).alloc _)
  have HR := Lib.hid hR
  have HB1 := Lib.hid b1
  have HS1 := Lib.hid hs1
  have hz0 : (((0 : Nat) : Int) != 0) = false := rfl
  clear hx hl hlc b1 hA hR hs1
  go_enter Try.func38, Try.ntmps38
  go_wp2_with fail
  refine HR.out.mono ?_
  rintro e w2 ⟨ho, hcase⟩
  have HB2 := Lib.hid (HB1.out.trans (ho.below (by omega) (by rw [HS1.out]; omega)))
  have HE2 := Lib.hid (E2.out.onlyR ho (by omega))
  have hsz : w.heap.size + 2 ≤ w2.heap.size := by have := ho.size; rw [HS1.out] at this; exact this
  have hs1' := HS1.out
  clear ho HR
  cases hg : gEnt l with
  | error x =>
    rw [hg] at hcase
    obtain rfl := hcase
    have hx := gEnt_err hg
    have hxz : ((x : Int) != 0) = true := by simp; omega
    have hxe : ((x : Int) == 0) = false := beq_false_of_ne (by omega)
    have HG := Lib.hid (show getR l = (Ent.zero, x) by unfold getR; rw [hg])
    clear hg hx hs1'
    go_wp2_with (first | (refine wpList_store_all rfl 42 (.tmp 5) (.tmp 13) rfl w2.heap.size zeroC rfl rfl 42 zeroC (Blk.new w2 _ _) (by kernel_rfl) rfl (by simp [zeroC, Value.oneCell']) ?_; intro w3 hb hos; (have HB3 := Lib.hid (below_two (HB2.out.alloc (by omega) (.cells zeroC 42)) hos (fun k hk e => by omega) (by rw [World.size_alloc]; omega))); (have HE3 := Lib.hid ((HE2.out.alloc (.cells zeroC 42)).onlyS hos (by omega))); (have hs3 : w.heap.size ≤ w3.heap.size := by have := hos.size; rw [World.size_alloc] at this; omega); clear hb hos) | (refine wpList_store_all rfl 42 (.tmp 2) (.tmp 21) rfl w.heap.size #[.int .u64 0, .int .i64 0, .int .u64 0, .int .u64 0, .slice none 0 0, .slice none 0 0] rfl rfl 42 zeroC HE3.out (by kernel_rfl) rfl (by simp [Value.oneCell']) ?_; intro w4 hb hos; (have HZ := Lib.hid hb); (have HB4 := Lib.hid (below_two HB3.out hos (fun k hk e => by omega) hs3)); clear hb hos))
    exact bodyPost_ret (v := .tuple #[.agg zeroC, .int .i64 (x : Int)]) (ret_entry rfl _ _ w.heap.size zeroC _ rfl rfl rfl HZ.out) rfl (getEnd_err HG.out HB4.out)
  | ok p =>
    obtain ⟨x, q⟩ := p
    rw [hg] at hcase
    obtain ⟨a', ca', b', cb', rfl, hm, hat⟩ := hcase
    rw [hs1'] at hm
    have HM := Lib.hid hm
    have HAt := Lib.hid hat
    have HGe := Lib.hid hg
    have hAl := hat.lt
    clear hg hm hat hs1'
    by_cases hq : q = []
    · have HG := Lib.hid (show getR l = (x, 0) by unfold getR; rw [HGe.out]; simp only; rw [if_pos hq])
      have HQ := Lib.hid hq
      clear hq
      go_wp2_with (first | (refine wpList_store_all rfl 42 (.tmp 5) (.tmp 13) rfl w2.heap.size (entC x a' ca' b' cb') rfl rfl 42 zeroC (Blk.new w2 _ _) (entC_size _ _ _ _ _) rfl (by simp [entC, Value.oneCell']) ?_; intro w3 hb hos; (have HX3 := Lib.hid hb); (have HB3 := Lib.hid (below_two (HB2.out.alloc (by omega) (.cells zeroC 42)) hos (fun k hk e => by omega) (by rw [World.size_alloc]; omega))); (have HE3 := Lib.hid ((HE2.out.alloc (.cells zeroC 42)).onlyS hos (by omega))); (have HA3 := Lib.hid ((HAt.out.below ((Below.refl _ w2).alloc (Nat.le_refl _) (.cells zeroC 42))).only hos (fun b hb e => by omega) (by intro e; omega))); (have HM3 := Lib.hid ((HM.out.below ((Below.refl _ w2).alloc (Nat.le_refl _) (.cells zeroC 42))).wrote (Blk.new w2 _ _) hos)); (have hs3 : w2.heap.size < w3.heap.size := by have := hos.size; rw [World.size_alloc] at this; omega); clear hb hos))
      refine (refreadEnd_any HA3.out).mono ?_
      rintro e w4 ⟨rfl, ho⟩
      have HX4 := Lib.hid (HX3.out.onlyR ho (by omega))
      have HE4 := Lib.hid (HE3.out.onlyR ho (by omega))
      have HB4 := Lib.hid (HB3.out.trans (ho.below (by omega) (by omega)))
      have HM4 := Lib.hid (HM3.out.onlyR (by omega) ho)
      have hs4 : w3.heap.size ≤ w4.heap.size := ho.size
      clear ho
      rw [if_pos HQ.out]
      go_wp2_with (first | (refine wpList_load_by rfl 42 (.tmp 5) rfl _ _ rfl (HX4.out.loads 42 _ Try.underlying42 rfl (entC_size _ _ _ _ _)) ?_) | (refine wpList_store_all rfl 42 (.tmp 2) (.tmp 23) rfl w.heap.size (entC x a' ca' b' cb') rfl rfl 42 _ HE4.out (entC_size _ _ _ _ _) rfl (by simp [entC, Value.oneCell']) ?_; intro w6 hb hos; (have HZ := Lib.hid hb); (have HB6 := Lib.hid (below_two HB4.out hos (fun k hk e => by omega) (by omega))); (have HM6 := Lib.hid (HM4.out.wrote HE4.out hos)); clear hb hos))
      exact bodyPost_ret (v := .tuple #[.agg (entC x a' ca' b' cb'), .int .i64 0]) (ret_entry rfl _ _ w.heap.size _ _ rfl rfl rfl HZ.out) rfl (getEnd_ok HG.out (HM6.out.low (by omega)) HB6.out)
    · have HG := Lib.hid (show getR l = (Ent.zero, 5) by unfold getR; rw [HGe.out]; simp only; rw [if_neg hq])
      have HQ := Lib.hid hq
      have h5 : (((5 : Nat) : Int) != 0) = true := rfl
      clear hq
      go_wp2_with (first | (refine wpList_store_all rfl 42 (.tmp 5) (.tmp 13) rfl w2.heap.size (entC x a' ca' b' cb') rfl rfl 42 zeroC (Blk.new w2 _ _) (entC_size _ _ _ _ _) rfl (by simp [entC, Value.oneCell']) ?_; intro w3 hb hos; (have HB3 := Lib.hid (below_two (HB2.out.alloc (by omega) (.cells zeroC 42)) hos (fun k hk e => by omega) (by rw [World.size_alloc]; omega))); (have HE3 := Lib.hid ((HE2.out.alloc (.cells zeroC 42)).onlyS hos (by omega))); (have HA3 := Lib.hid ((HAt.out.below ((Below.refl _ w2).alloc (Nat.le_refl _) (.cells zeroC 42))).only hos (fun b hb e => by omega) (by intro e; omega))); (have hs3 : w2.heap.size < w3.heap.size := by have := hos.size; rw [World.size_alloc] at this; omega); clear hb hos))
      refine (refreadEnd_any HA3.out).mono ?_
      rintro e w4 ⟨rfl, ho⟩
      have HE4 := Lib.hid (HE3.out.onlyR ho (by omega))
      have HB4 := Lib.hid (HB3.out.trans (ho.below (by omega) (by omega)))
      have hs4 : w3.heap.size ≤ w4.heap.size := ho.size
      clear ho
      rw [if_neg HQ.out]
      go_wp2_with (first | (refine wpList_store_all rfl 42 (.tmp 2) (.tmp 21) rfl w.heap.size #[.int .u64 0, .int .i64 0, .int .u64 0, .int .u64 0, .slice none 0 0, .slice none 0 0] rfl rfl 42 zeroC HE4.out (by kernel_rfl) rfl (by simp [Value.oneCell']) ?_; intro w6 hb hos; (have HZ := Lib.hid hb); (have HB6 := Lib.hid (below_two HB4.out hos (fun k hk e => by omega) (by omega))); clear hb hos))
      exact bodyPost_ret (v := .tuple #[.agg zeroC, .int .i64 ((5 : Nat) : Int)]) (ret_entry rfl _ _ w.heap.size zeroC _ rfl rfl rfl HZ.out) rfl (getEnd_err HG.out HB6.out)

end Go.Proofs.Ytidapdooiibfnaa

