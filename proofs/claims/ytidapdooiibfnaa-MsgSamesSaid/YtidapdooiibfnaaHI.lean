/- Get: the reading with its recover. -/
import Derived.Test.YtidapdooiibfnaaHG
namespace Go.Proofs.Ytidapdooiibfnaa
set_option maxRecDepth 20000
open Go.RowKit BinMath CmdMath
variable {G : Nat}

theorem At.wrote {w w' : World} {R g : Nat} {l r : List UInt8} {t : TypeId} {cs : Array Value} {z : Int} (h : At w R G l r) (hb : Blk w g t cs) (h0 : cs[0]? = some (.int .u64 z)) (hR : ¬ R = g) (ho : OnlyS (fun b => b = g) w w') : At w' R G l r := by
  obtain ⟨k, ⟨b, cap, hh, hk, hl, ⟨hc1, hc2, hG⟩, hcase⟩, e⟩ := h
  have hRl : R < w.heap.size := (Array.getElem?_eq_some_iff.1 hh).1
  refine ⟨k, ⟨b, cap, by rw [ho.block R hRl hR]; exact hh, hk, hl, ⟨hc1, hc2, Nat.le_trans hG ho.size⟩, ?_⟩, e⟩
  rcases hcase with hcase | ⟨g', rfl, hn, hlt, hc⟩
  · exact .inl hcase
  · refine .inr ⟨g', rfl, hn, hlt, fun i hi => ?_⟩
    have hne : ¬ g' = g := fun e => by
      subst e
      have h1 := hc 0 (by omega)
      rw [hb.cell, h0] at h1
      simp [bv] at h1
    have hcl : w'.cell? ⟨g', i, none⟩ = w.cell? ⟨g', i, none⟩ := World.cell?_of_block (w := w) (ho.block g' (Nat.lt_of_lt_of_le hlt hG) hne)
    rw [hcl]
    exact hc i hi

theorem Mine.far {w w' : World} {B : Nat} {e : Ent} {a b : Option Addr} {ca cb : Nat} {S : Nat → Prop} (h : Mine w B e a ca b cb) (ho : OnlyS S w w') (hS : ∀ k, B ≤ k → ¬ S k) : Mine w' B e a ca b cb :=
  ⟨h.ok, row_to h.d fun k hk => ho.block k (World.ownsRow.lt h.d k hk).2 (hS k (World.ownsRow.lt h.d k hk).1), h.m.to fun k hk => ho.block k (World.ownsRow.lt h.m k hk).2 (hS k (World.ownsRow.lt h.m k hk).1), h.dl, h.ml⟩

theorem Mine.onlyR {w w' : World} {B R : Nat} {e : Ent} {a b : Option Addr} {ca cb : Nat} (h : Mine w B e a ca b cb) (hR : R < B) (ho : Only R w w') : Mine w' B e a ca b cb :=
  ⟨h.ok, row_onlyR h.d hR ho, h.m.only hR ho, h.dl, h.ml⟩

theorem Mine.low {w : World} {B B' : Nat} {e : Ent} {a b : Option Addr} {ca cb : Nat} (h : Mine w B e a ca b cb) (hB : B' ≤ B) : Mine w B' e a ca b cb :=
  ⟨h.ok, row_low h.d hB, nrow_low h.m hB, h.dl, h.ml⟩

theorem Mine.zero (w : World) (B : Nat) : Mine w B Ent.zero none 0 none 0 := ⟨Ent.Ok.zero, World.ownsRow_nil _ _ _ _, World.ownsRow_nil _ _ _ _, by decide, by decide⟩

theorem below_two {B : Nat} {w w1 w2 : World} {S : Nat → Prop} (h : Below B w w1) (ho : OnlyS S w1 w2) (hS : ∀ k, k < B → ¬ S k) (hB : B ≤ w1.heap.size) : Below B w w2 := h.trans (ho.below hS hB)

/-- How Get ends. -/
def GetEnd (l : List UInt8) (w : World) (e : Ending) (w' : World) : Prop :=
  ∃ a ca b cb, e = .returned (.tuple #[.agg (entC (getR l).1 a ca b cb), .int .i64 ((getR l).2 : Int)]) ∧ Mine w' w.heap.size (getR l).1 a ca b cb ∧ Below w.heap.size w w'

theorem getEnd_err {l : List UInt8} {c : Nat} {w w' : World} (h : getR l = (Ent.zero, c)) (hb : Below w.heap.size w w') : GetEnd l w (.returned (.tuple #[.agg zeroC, .int .i64 (c : Int)])) w' := by
  unfold GetEnd
  rw [h]
  exact ⟨none, 0, none, 0, rfl, Mine.zero _ _, hb⟩

theorem getEnd_ok {l : List UInt8} {x : Ent} {a b : Option Addr} {ca cb : Nat} {w w' : World} (h : getR l = (x, 0)) (hm : Mine w' w.heap.size x a ca b cb) (hb : Below w.heap.size w w') : GetEnd l w (.returned (.tuple #[.agg (entC x a ca b cb), .int .i64 0])) w' := by
  unfold GetEnd
  rw [h]
  exact ⟨a, ca, b, cb, rfl, hm, hb⟩

/-- What the closure of Get leaves. -/
def Got (l : List UInt8) (B E : Nat) (w : World) (c : Int) (w' : World) : Prop :=
  c = ((getR l).2 : Int) ∧ OnlyS (fun b => b = E) w w' ∧ (c = 0 → ∃ a ca b cb, Blk w' E 42 (entC (getR l).1 a ca b cb) ∧ Mine w' B (getR l).1 a ca b cb)

set_option maxHeartbeats 4000000 in
theorem get1_any (A E : Nat) (a : Option Addr) (len cap : Nat) (l : List UInt8) (w : World) (hA : Blk w A 25 #[.slice a len cap]) (hE : Blk w E 42 zeroC) (hx : Bys w (.slice a len cap) l) (hl : l.length ≤ 140737488351232) :
    Calls Try.prog 103 #[.pointer (some ⟨A, 0, none⟩), .pointer (some ⟨E, 0, none⟩)] w fun e w' => ∃ c, Gives c e ∧ Got l w.heap.size E w c w' := by
  have HN := Lib.hid (rnew_any a len cap l w hx hl)
  have cA : w.cell? ⟨A, 0, none⟩ = some (.slice a len cap) := by rw [hA.cell]; rfl
  have hEl : E < w.heap.size := hE.lt
  have HE := Lib.hid hE
  clear hx hl hA hE
  go_enter Try.func103, Try.ntmps103
  go_wp2_with fail
  refine HN.out.mono ?_
  rintro e w2 ⟨R, rfl, hR, hrd, hb⟩
  have hs12 : w.heap.size ≤ w2.heap.size := hb.size
  have HB2 := Lib.hid (OnlyS.of_below (S := fun b => b = E) hb fun k hk _ => hk)
  have HF2 := Lib.hid (HE.out.keep hb)
  have HAt := Lib.hid (show At w2 R w2.heap.size l l from ⟨0, hrd, rfl⟩)
  have HEn := Lib.hid (entry_any HAt.out)
  clear hrd hb HN cA
  go_wp2_with fail
  refine HEn.out.mono ?_
  rintro e w3 ⟨ho, hcase⟩
  have hRl : R < w2.heap.size := HAt.out.lt.1
  have HB3 := Lib.hid (HB2.out.then (OnlyS.of_only (S := fun b => b = R) ho rfl) fun k hk h => by omega)
  have HG2 := Lib.hid (HF2.out.onlyR ho (by omega))
  have hs23 : w2.heap.size ≤ w3.heap.size := ho.size
  clear ho HEn
  cases hg : gEnt l with
  | error c =>
    rw [hg] at hcase
    obtain rfl := hcase
    have hc := gEnt_err hg
    have HR := Lib.hid (show getR l = (Ent.zero, c) by unfold getR; rw [hg])
    clear hg
    refine ⟨rfl, c, ⟨fun h => absurd h (by omega), fun _ => rfl⟩, ?_⟩
    unfold Got
    rw [HR.out]
    exact ⟨rfl, HB3.out, fun h => absurd h (by omega)⟩
  | ok p =>
    obtain ⟨x, q⟩ := p
    rw [hg] at hcase
    obtain ⟨a', ca', b', cb', rfl, hm, hat⟩ := hcase
    have HM := Lib.hid hm
    have HAt3 := Lib.hid hat
    have HGe := Lib.hid hg
    clear hg hm hat
    have hE0 : ((5 : Nat) : Int) = 5 := rfl
    go_wp2_with (first | (refine wpList_store_all rfl 42 (.tmp 1) (.tmp 6) rfl E (entC x a' ca' b' cb') rfl rfl 42 zeroC HG2.out (entC_size _ _ _ _ _) rfl (by simp [entC, Value.oneCell']) ?_; intro w4 hb hos; (have HK2 := Lib.hid hb); (have HB4 := Lib.hid (HB3.out.trans (OnlyS.mono hos fun k _ h => h))); (have HM4 := Lib.hid (HM.out.far hos (fun k hk e => by omega))); (have HA4 := Lib.hid (HAt3.out.wrote HG2.out (z := 0) rfl (by omega) hos)); (have hs34 : w3.heap.size ≤ w4.heap.size := hos.size); clear hb hos))
    by_cases hq : q = []
    · have HR := Lib.hid (show getR l = (x, 0) by unfold getR; rw [HGe.out]; simp only; rw [if_pos hq])
      have HQ := Lib.hid hq
      clear hq
      refine (readEnd_any HA4.out).mono ?_
      rintro e w5 ⟨rfl, ho⟩
      have HL2 := Lib.hid (HK2.out.onlyR ho (by omega))
      have HB5 := Lib.hid (HB4.out.then (OnlyS.of_only (S := fun b => b = R) ho rfl) fun k hk h => by omega)
      have HM5 := Lib.hid (HM4.out.onlyR hRl ho)
      clear ho
      rw [if_pos HQ.out]
      go_wp2_with fail
      refine (must_ok _).mono ?_
      rintro e w5 ⟨rfl, rfl⟩
      go_wp2
      go_end0
      refine ⟨0, ⟨fun _ => rfl, fun h => absurd rfl h⟩, ?_⟩
      unfold Got
      rw [HR.out]
      exact ⟨rfl, HB5.out, fun _ => ⟨_, _, _, _, HL2.out, HM5.out.low (by omega)⟩⟩
    · have HR := Lib.hid (show getR l = (Ent.zero, 5) by unfold getR; rw [HGe.out]; simp only; rw [if_neg hq])
      have HQ := Lib.hid hq
      clear hq
      refine (readEnd_any HA4.out).mono ?_
      rintro e w5 ⟨rfl, ho⟩
      have HB5 := Lib.hid (HB4.out.then (OnlyS.of_only (S := fun b => b = R) ho rfl) fun k hk h => by omega)
      clear ho
      rw [if_neg HQ.out]
      go_wp2_with fail
      refine (must_bad 5 _ (by decide)).mono ?_
      rintro e w5 ⟨rfl, rfl⟩
      refine ⟨rfl, 5, ⟨fun h => absurd h (by decide), fun _ => rfl⟩, ?_⟩
      unfold Got
      rw [HR.out]
      exact ⟨rfl, HB5.out, fun h => absurd h (by decide)⟩

/-- A result that is a variable's struct and a number. -/
theorem ret_ent {fn : Func} {p u : Tmp} (h : fn.results = #[.cell p 42, .tmp u]) (tmps : Array Value) (W : World) (g2 : Nat) (cs : Array Value) (c : Value) (hs : cs.size = 6) (hp : tmps.getD p undef = .pointer (some ⟨g2, 0, none⟩)) (hu : tmps.getD u undef = c)
    (h2 : Blk W g2 42 cs) : (results fn tmps).run Try.prog W = .ok (.tuple #[.agg cs, c]) W := by
  have h6 : (Try.prog.info? 42).map (·.size) = some 6 := by kernel_rfl
  have hl := run_loadVar_row (P := Try.prog) W g2 42 42 cs (0, 0) _ h2 Try.underlying42 rfl (by rw [hs]; exact h6)
  have hp' : tmps[p]?.getD undef = .pointer (some ⟨g2, 0, none⟩) := by simpa using hp
  have hu' : tmps[u]?.getD undef = c := by simpa using hu
  simp [results, h, hp', hu', asAddr, hl, Result.andThen]

set_option maxHeartbeats 4000000 in
theorem get_any (a : Option Addr) (len cap : Nat) (l : List UInt8) (w : World) (hx : Bys w (.slice a len cap) l) (hl : l.length ≤ 140737488351232) :
    Calls Try.prog 97 #[.slice a len cap] w (GetEnd l w) := by
  have hmf : ∀ (fn : Fn) (first cap : Array Value) (w : World), (Instr.makeFunc fn first cap).run Try.prog w = .ok (.func fn first cap) w := fun _ _ _ _ => rfl
  obtain ⟨w0, hw0⟩ : ∃ w0, w0 = (((w.alloc (.cells #[.slice a len cap] 25)).alloc (.cells zeroC 42)).alloc (.cells zeroC 42)) := ⟨_, rfl⟩
  have b1 : Below w.heap.size w w0 := by rw [hw0]; exact (((Below.refl _ _).alloc (Nat.le_refl _) _).alloc (by simp) _).alloc (by simp only [World.size_alloc]; omega) _
  have hs1 : w0.heap.size = w.heap.size + 3 := by rw [hw0]; simp
  have E1 : Blk w0 w.heap.size 25 #[.slice a len cap] := by rw [hw0]; exact ((Blk.new w _ _).alloc _).alloc _
  have E2 : Blk w0 (w.heap.size + 1) 42 zeroC := by
    rw [hw0]
    exact (Blk.newAt (w.alloc (.cells #[.slice a len cap] 25)) 42 zeroC _ (w.heap.size + 1) (by simp) rfl).alloc _
  have E3 : Blk w0 (w.heap.size + 2) 42 zeroC := by
    rw [hw0]
    exact Blk.newAt ((w.alloc (.cells #[.slice a len cap] 25)).alloc (.cells zeroC 42)) 42 zeroC _ (w.heap.size + 2) (by simp) rfl
  have hC := caught_any 103 #[] #[.pointer (some ⟨w.heap.size, 0, none⟩), .pointer (some ⟨w.heap.size + 2, 0, none⟩)] (enters _ (by kernel_rfl)) w0
    (fun c w2 => ∃ w1, Below (w.heap.size + 3) w0 w1 ∧ w1.heap.size = w.heap.size + 4 ∧ Got l w1.heap.size (w.heap.size + 2) w1 c w2)
    (fun w1 hb hs => by
      rw [hs1] at hb hs
      have hb' : Below w0.heap.size w0 w1 := by rw [hs1]; exact hb
      refine (get1_any w.heap.size (w.heap.size + 2) a len cap l w1 (E1.keep hb') (E3.keep hb') ((hx.below (Nat.le_refl _) b1).below (Nat.le_refl _) hb') hl).mono ?_
      rintro e w2 ⟨c, hg, hgot⟩
      refine ⟨c, hg, ⟨w1, hb, hs, hgot⟩, hgot.2.1.size, ?_⟩
      rw [hs1]
      exact hgot.2.1.block _ (by omega) (by omega))
  have HC := Lib.hid hC
  have HB1 := Lib.hid b1
  have HS1 := Lib.hid hs1
  have HE2 := Lib.hid E2
  have HW0 := Lib.hid hw0
  clear hx hl b1 hs1 E1 E2 E3 hC hw0
  go_enter Try.func97, Try.ntmps97
  go_wp2_with fail
  have e0 := HW0.out
  simp only [zeroC] at e0
  rw [← e0]
  clear e0
  refine HC.out.mono ?_
  rintro e w3 ⟨c, w2, ⟨w1, hb1, hs1, h1, h2, h3⟩, rfl, hsz, ho⟩
  rw [HS1.out] at hsz ho
  subst h1
  have hbw : Below w.heap.size w w2 := (HB1.out.trans (hb1.mono (by omega))).trans (h2.below (fun k hk h => by omega) (by omega))
  have hb3 : Below w.heap.size w w3 := hbw.trans (ho.below (fun k hk h => by omega) (by omega))
  have HB3 := Lib.hid hb3
  have hk2 : Blk w3 (w.heap.size + 1) 42 zeroC := ((HE2.out.keep (by rw [HS1.out]; exact hb1)).onlyS h2 (by omega)).onlyS ho (by omega)
  have HK2 := Lib.hid hk2
  have hs3 : w.heap.size + 3 ≤ w3.heap.size := by have := ho.size; omega
  by_cases h0 : (getR l).2 = 0
  · obtain ⟨a', ca', b', cb', h4, h5⟩ := h3 (by omega)
    have h6 : Blk w3 (w.heap.size + 2) 42 (entC (getR l).1 a' ca' b' cb') := h4.onlyS ho (by omega)
    have h7 : Mine w3 (w.heap.size + 4) (getR l).1 a' ca' b' cb' := (h5.far ho (fun k hk e => by omega)).low (by omega)
    obtain ⟨x, hx⟩ : ∃ x, getR l = (x, 0) := ⟨(getR l).1, by rw [← h0]⟩
    have HX := Lib.hid hx
    rw [hx] at h6 h7 ⊢
    have H6 := Lib.hid h6
    have H7 := Lib.hid h7
    have hc0 : (((0 : Nat) : Int) != 0) = false := rfl
    clear h0 h2 h3 h4 h5 h6 h7 hb1 hs1 hbw hb3 hsz ho HC hx hk2
    go_wp2_with (first | (refine wpList_load_by rfl 42 (.tmp 4) rfl _ _ rfl (H6.out.loads 42 _ Try.underlying42 rfl (entC_size _ _ _ _ _)) ?_) | (refine wpList_store_all rfl 42 (.tmp 2) (.tmp 12) rfl (w.heap.size + 1) (entC x a' ca' b' cb') rfl rfl 42 zeroC HK2.out (entC_size _ _ _ _ _) rfl (by simp [entC, Value.oneCell']) ?_; intro w4 hb hos; (have HK4 := Lib.hid hb); (have HB4 := Lib.hid (below_two HB3.out hos (fun k hk e => by omega) (by omega))); (have H74 := Lib.hid (H7.out.far hos (fun k hk e => by omega))); clear hb hos))
    exact bodyPost_ret (v := .tuple #[.agg (entC x a' ca' b' cb'), .int .i64 0]) (ret_ent rfl _ _ (w.heap.size + 1) _ _ rfl rfl rfl HK4.out) rfl (getEnd_ok HX.out (H74.out.low (by omega)) HB4.out)
  · have HX := Lib.hid (show getR l = (Ent.zero, (getR l).2) by rcases getR_cases l with h | h; exact absurd h.1 h0; exact Prod.ext h.2.2 rfl)
    have i0 : (((getR l).2 : Int) != 0) = true := by simp; omega
    obtain ⟨n, hn⟩ : ∃ n, (getR l).2 = n := ⟨_, rfl⟩
    have HN := Lib.hid hn
    rw [hn] at i0 ⊢
    clear h0 h2 h3 hb1 hs1 hbw hb3 hsz ho HC hn hk2
    go_wp2_with (first | (refine wpList_store_all rfl 42 (.tmp 2) (.tmp 10) rfl (w.heap.size + 1) zeroC rfl rfl 42 zeroC HK2.out (entC_size Ent.zero none none 0 0) rfl (by simp [zeroC, Value.oneCell']) ?_; intro w4 hb hos; (have HK4 := Lib.hid hb); (have HB4 := Lib.hid (below_two HB3.out hos (fun k hk e => by omega) (by omega))); clear hb hos))
    exact bodyPost_ret (v := .tuple #[.agg zeroC, .int .i64 (n : Int)]) (ret_ent rfl _ _ (w.heap.size + 1) _ _ rfl rfl rfl HK4.out) rfl (getEnd_err (HX.out.trans (by rw [HN.out])) HB4.out)

end Go.Proofs.Ytidapdooiibfnaa

