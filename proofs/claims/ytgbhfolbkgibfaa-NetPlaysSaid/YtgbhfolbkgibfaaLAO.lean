/- Joined: Ents, CmdGet, CmdIds, CmdRefRead, CmdRefGet, CmdRefPut, CmdCopy, CmdOpen, MsgKit, MsgEls, MsgFar. -/
import Derived.Test.YtgbhfolbkgibfaaCmdEntryL
import Derived.Test.YtgbhfolbkgibfaaLAK
import Derived.Test.YtgbhfolbkgibfaaCmdPutL
import Derived.Lib.SlBytesConst
import Derived.ChangeArms
import Derived.ChangeSlices
import Derived.Laws.IdiomArrays
import Derived.SizedLaws
import Derived.Test.YtgbhfolbkgibfaaLAB
/- Entries wherever they lie: an entry and its slices' addresses, lists of them. -/
namespace Go.Proofs.Ytgbhfolbkgibfaa
set_option maxRecDepth 20000
open Go.RowKit Go.Maps
open CmdMath (Ent)

/-- An entry, and where its slices lie. -/
structure EE where
  e : Ent
  a : Option Addr
  ca : Nat
  b : Option Addr
  cb : Nat

def EE.cells (u : EE) : List Value := (entC u.e u.a u.ca u.b u.cb).toList

theorem EE.cells_len (u : EE) : u.cells.length = 6 := rfl

theorem info_ent : (Try.prog.info? 62).map (fun i => (i.zero, i.size, i.bytes)) = some (some (.agg zeroC), 6, 80) := by kernel_rfl

/-- A list of entries, wherever it lies. -/
def Els (w : World) (v : Value) (us : List EE) : Prop :=
  (v = .slice none 0 0 ∧ us = []) ∨
  ∃ ad cap, v = .slice (some ad) us.length cap ∧ us.length ≤ cap ∧ ∀ j u, (us.flatMap EE.cells)[j]? = some u → w.cell? (ad.add j) = some u

/-- What each entry's slices lead to. -/
def HasAll (w : World) (us : List EE) : Prop := ∀ u ∈ us, Has w u.e u.a u.ca u.b u.cb

theorem Els.below {w w' : World} {v : Value} {us : List EE} (h : Els w v us) {B : Nat} (hB : w.heap.size ≤ B) (hb : Below B w w') : Els w' v us := by
  rcases h with h | ⟨ad, cap, hv, hl, hc⟩
  · exact .inl h
  · exact .inr ⟨ad, cap, hv, hl, fun j u hj => by
      have h1 := hc j u hj
      rw [hb.cell (p := ad.add j) (Nat.lt_of_lt_of_le (World.block_lt_of_cell? w _ h1) hB)]
      exact h1⟩

theorem HasAll.below {w w' : World} {us : List EE} (h : HasAll w us) {B : Nat} (hB : w.heap.size ≤ B) (hb : Below B w w') : HasAll w' us := fun u hu => (h u hu).below hB hb

theorem Els.form {w : World} {v : Value} {us : List EE} (h : Els w v us) : ∃ a c, v = .slice a us.length c := by
  rcases h with ⟨rfl, rfl⟩ | ⟨ad, cap, rfl, _⟩
  · exact ⟨_, _, rfl⟩
  · exact ⟨_, _, rfl⟩

theorem cells_all (us : List EE) : (us.flatMap EE.cells).length = us.length * 6 := by
  induction us with
  | nil => rfl
  | cons u us ih => rw [List.flatMap_cons, List.length_append, EE.cells_len, ih, List.length_cons]; omega

theorem cells_one (us : List EE) : ∀ u ∈ us.flatMap EE.cells, u.oneCell' = true := by
  intro x hx
  obtain ⟨u, _, hu⟩ := List.mem_flatMap.1 hx
  unfold EE.cells entC at hu
  simp only [List.mem_cons, List.not_mem_nil, or_false] at hu
  rcases hu with rfl | rfl | rfl | rfl | rfl | rfl <;> rfl

theorem cells_take (us : List EE) (i : Nat) : (us.flatMap EE.cells).take (i * 6) = (us.take i).flatMap EE.cells := by
  induction us generalizing i with
  | nil => simp
  | cons u us ih =>
    cases i with
    | zero => simp
    | succ i =>
      rw [List.flatMap_cons, List.take_succ_cons, List.flatMap_cons, ← ih i, show (i + 1) * 6 = u.cells.length + i * 6 by rw [EE.cells_len]; omega, List.take_length_add_append]

theorem cells_drop (us : List EE) (i : Nat) : (us.flatMap EE.cells).drop (i * 6) = (us.drop i).flatMap EE.cells := by
  induction us generalizing i with
  | nil => simp
  | cons u us ih =>
    cases i with
    | zero => simp
    | succ i =>
      rw [List.flatMap_cons, List.drop_succ_cons, ← ih i, show (i + 1) * 6 = u.cells.length + i * 6 by rw [EE.cells_len]; omega, List.drop_length_add_append]

theorem Els.load {w : World} {a : Option Addr} {n c : Nat} {us : List EE} (h : Els w (.slice a n c) us) {i : Nat} {u : EE} (hi : us[i]? = some u) : ∃ ad : Addr, a = some ad ∧ ∀ j v, u.cells[j]? = some v → w.cell? ((ad.add (i * 6)).add j) = some v := by
  rcases h with ⟨_, rfl⟩ | ⟨ad, cap, h1, _, hc⟩
  · simp at hi
  · cases h1
    refine ⟨ad, rfl, fun j v hj => ?_⟩
    have hd := cells_drop us i
    obtain ⟨hlt, hu⟩ := List.getElem?_eq_some_iff.1 hi
    rw [List.drop_eq_getElem_cons hlt, List.flatMap_cons, hu] at hd
    have hj6 : j < u.cells.length := (List.getElem?_eq_some_iff.1 hj).1
    have h2 : (us.flatMap EE.cells)[i * 6 + j]? = some v := by
      rw [← List.getElem?_drop, hd, List.getElem?_append_left hj6]
      exact hj
    have h3 := hc _ _ h2
    rw [← h3]
    congr 1
    by_cases h4 : i * 6 = 0
    · by_cases h5 : j = 0
      · simp [Addr.add, h4, h5]
      · simp [Addr.add, h4, h5]
    · by_cases h5 : j = 0
      · simp [Addr.add, h4, h5]
      · simp [Addr.add, h4, h5, Nat.add_assoc]

theorem load_ent (W : World) (p : Addr) (u : EE) (h : ∀ j v, u.cells[j]? = some v → W.cell? (p.add j) = some v) : (Instr.loadAt 62 (.pointer (some p))).run Try.prog W = .ok (.agg (entC u.e u.a u.ca u.b u.cb)) W :=
  loads_cells p 62 _ u.cells Try.underlying62 rfl (by kernel_rfl) h

end Go.Proofs.Ytgbhfolbkgibfaa

/- Get: the reading with its recover. -/
namespace Go.Proofs.Ytgbhfolbkgibfaa
set_option maxRecDepth 20000
open Go.RowKit BinMath CmdMath
variable {G : Nat}

theorem At.wrote {w w' : World} {R g : Nat} {l r : List UInt8} {t : TypeId} {cs : Array Value} {z : Int} (h : At w R G l r) (hb : Blk w g t cs) (h0 : cs[0]? = some (.int .u64 z)) (hR : ¬ R = g) (ho : OnlyS (fun b => b = g) w w') : At w' R G l r := by
  obtain ⟨k, ⟨b, cap, hh, hk, hl, ⟨hc1, hc2, hG⟩, hcase⟩, e⟩ := h
  have hRl : R < w.heap.size := (Array.getElem?_eq_some_iff.1 hh).1
  refine ⟨k, ⟨b, cap, by rw [ho.block R hRl hR]; exact hh, hk, hl, ⟨hc1, hc2, Nat.le_trans hG ho.size⟩, ?_⟩, e⟩
  rcases hcase with hcase | ⟨g', rfl, hn, hlt, hc⟩
  · exact .inl hcase
  · refine .inr ⟨g', rfl, hn, hlt, fun i hi => ?_⟩
    have hne : ¬ g' = g := fun e => by
      subst e
      have h1 := hc 0 (by omega)
      rw [hb.cell, h0] at h1
      simp [bv] at h1
    have hcl : w'.cell? ⟨g', i, none⟩ = w.cell? ⟨g', i, none⟩ := World.cell?_of_block (w := w) (ho.block g' (Nat.lt_of_lt_of_le hlt hG) hne)
    rw [hcl]
    exact hc i hi

theorem Mine.far {w w' : World} {B : Nat} {e : Ent} {a b : Option Addr} {ca cb : Nat} {S : Nat → Prop} (h : Mine w B e a ca b cb) (ho : OnlyS S w w') (hS : ∀ k, B ≤ k → ¬ S k) : Mine w' B e a ca b cb :=
  ⟨h.ok, row_to h.d fun k hk => ho.block k (World.ownsRow.lt h.d k hk).2 (hS k (World.ownsRow.lt h.d k hk).1), h.m.to fun k hk => ho.block k (World.ownsRow.lt h.m k hk).2 (hS k (World.ownsRow.lt h.m k hk).1), h.dl, h.ml⟩

theorem Mine.onlyR {w w' : World} {B R : Nat} {e : Ent} {a b : Option Addr} {ca cb : Nat} (h : Mine w B e a ca b cb) (hR : R < B) (ho : Only R w w') : Mine w' B e a ca b cb :=
  ⟨h.ok, row_onlyR h.d hR ho, h.m.only hR ho, h.dl, h.ml⟩

theorem Mine.low {w : World} {B B' : Nat} {e : Ent} {a b : Option Addr} {ca cb : Nat} (h : Mine w B e a ca b cb) (hB : B' ≤ B) : Mine w B' e a ca b cb :=
  ⟨h.ok, row_low h.d hB, nrow_low h.m hB, h.dl, h.ml⟩

theorem Mine.zero (w : World) (B : Nat) : Mine w B Ent.zero none 0 none 0 := ⟨Ent.Ok.zero, World.ownsRow_nil _ _ _ _, World.ownsRow_nil _ _ _ _, by decide, by decide⟩

theorem below_two {B : Nat} {w w1 w2 : World} {S : Nat → Prop} (h : Below B w w1) (ho : OnlyS S w1 w2) (hS : ∀ k, k < B → ¬ S k) (hB : B ≤ w1.heap.size) : Below B w w2 := h.trans (ho.below hS hB)

/-- How Get ends. -/
def GetEnd (l : List UInt8) (w : World) (e : Ending) (w' : World) : Prop :=
  ∃ a ca b cb, e = .returned (.tuple #[.agg (entC (getR l).1 a ca b cb), .int .i64 ((getR l).2 : Int)]) ∧ Mine w' w.heap.size (getR l).1 a ca b cb ∧ Below w.heap.size w w'

theorem getEnd_err {l : List UInt8} {c : Nat} {w w' : World} (h : getR l = (Ent.zero, c)) (hb : Below w.heap.size w w') : GetEnd l w (.returned (.tuple #[.agg zeroC, .int .i64 (c : Int)])) w' := by
  unfold GetEnd
  rw [h]
  exact ⟨none, 0, none, 0, rfl, Mine.zero _ _, hb⟩

theorem getEnd_ok {l : List UInt8} {x : Ent} {a b : Option Addr} {ca cb : Nat} {w w' : World} (h : getR l = (x, 0)) (hm : Mine w' w.heap.size x a ca b cb) (hb : Below w.heap.size w w') : GetEnd l w (.returned (.tuple #[.agg (entC x a ca b cb), .int .i64 0])) w' := by
  unfold GetEnd
  rw [h]
  exact ⟨a, ca, b, cb, rfl, hm, hb⟩

/-- What the closure of Get leaves. -/
def Got (l : List UInt8) (B E : Nat) (w : World) (c : Int) (w' : World) : Prop :=
  c = ((getR l).2 : Int) ∧ OnlyS (fun b => b = E) w w' ∧ (c = 0 → ∃ a ca b cb, Blk w' E 62 (entC (getR l).1 a ca b cb) ∧ Mine w' B (getR l).1 a ca b cb)

set_option maxHeartbeats 4000000 in
theorem get1_any (A E : Nat) (a : Option Addr) (len cap : Nat) (l : List UInt8) (w : World) (hA : Blk w A 34 #[.slice a len cap]) (hE : Blk w E 62 zeroC) (hx : Bys w (.slice a len cap) l) (hl : l.length ≤ 140737488351232) :
    Calls Try.prog 104 #[.pointer (some ⟨A, 0, none⟩), .pointer (some ⟨E, 0, none⟩)] w fun e w' => ∃ c, Gives c e ∧ Got l w.heap.size E w c w' := by
  have HN := Lib.hid (rnew_any a len cap l w hx hl)
  have cA : w.cell? ⟨A, 0, none⟩ = some (.slice a len cap) := by rw [hA.cell]; rfl
  have hEl : E < w.heap.size := hE.lt
  have HE := Lib.hid hE
  clear hx hl hA hE
  go_enter Try.func104, Try.ntmps104
  go_wp2_with fail
  refine HN.out.mono ?_
  rintro e w2 ⟨R, rfl, hR, hrd, hb⟩
  have hs12 : w.heap.size ≤ w2.heap.size := hb.size
  have HB2 := Lib.hid (OnlyS.of_below (S := fun b => b = E) hb fun k hk _ => hk)
  have HF2 := Lib.hid (HE.out.keep hb)
  have HAt := Lib.hid (show At w2 R w2.heap.size l l from ⟨0, hrd, rfl⟩)
  have HEn := Lib.hid (entry_any HAt.out)
  clear hrd hb HN cA
  go_wp2_with fail
  refine HEn.out.mono ?_
  rintro e w3 ⟨ho, hcase⟩
  have hRl : R < w2.heap.size := HAt.out.lt.1
  have HB3 := Lib.hid (HB2.out.then (OnlyS.of_only (S := fun b => b = R) ho rfl) fun k hk h => by omega)
  have HG2 := Lib.hid (HF2.out.onlyR ho (by omega))
  have hs23 : w2.heap.size ≤ w3.heap.size := ho.size
  clear ho HEn
  cases hg : gEnt l with
  | error c =>
    rw [hg] at hcase
    obtain rfl := hcase
    have hc := gEnt_err hg
    have HR := Lib.hid (show getR l = (Ent.zero, c) by unfold getR; rw [hg])
    clear hg
    refine ⟨rfl, c, ⟨fun h => absurd h (by omega), fun _ => rfl⟩, ?_⟩
    unfold Got
    rw [HR.out]
    exact ⟨rfl, HB3.out, fun h => absurd h (by omega)⟩
  | ok p =>
    obtain ⟨x, q⟩ := p
    rw [hg] at hcase
    obtain ⟨a', ca', b', cb', rfl, hm, hat⟩ := hcase
    have HM := Lib.hid hm
    have HAt3 := Lib.hid hat
    have HGe := Lib.hid hg
    clear hg hm hat
    have hE0 : ((5 : Nat) : Int) = 5 := rfl
    go_wp2_with (first | (refine wpList_store_all rfl 62 (.tmp 1) (.tmp 6) rfl E (entC x a' ca' b' cb') rfl rfl 62 zeroC HG2.out (entC_size _ _ _ _ _) rfl (by simp [entC, Value.oneCell']) ?_; intro w4 hb hos; (have HK2 := Lib.hid hb); (have HB4 := Lib.hid (HB3.out.trans (OnlyS.mono hos fun k _ h => h))); (have HM4 := Lib.hid (HM.out.far hos (fun k hk e => by omega))); (have HA4 := Lib.hid (HAt3.out.wrote HG2.out (z := 0) rfl (by omega) hos)); (have hs34 : w3.heap.size ≤ w4.heap.size := hos.size); clear hb hos))
    by_cases hq : q = []
    · have HR := Lib.hid (show getR l = (x, 0) by unfold getR; rw [HGe.out]; simp only; rw [if_pos hq])
      have HQ := Lib.hid hq
      clear hq
      refine (readEnd_any HA4.out).mono ?_
      rintro e w5 ⟨rfl, ho⟩
      have HL2 := Lib.hid (HK2.out.onlyR ho (by omega))
      have HB5 := Lib.hid (HB4.out.then (OnlyS.of_only (S := fun b => b = R) ho rfl) fun k hk h => by omega)
      have HM5 := Lib.hid (HM4.out.onlyR hRl ho)
      clear ho
      rw [if_pos HQ.out]
      go_wp2_with fail
      refine (must_ok _).mono ?_
      rintro e w5 ⟨rfl, rfl⟩
      go_wp2
      go_end0
      refine ⟨0, ⟨fun _ => rfl, fun h => absurd rfl h⟩, ?_⟩
      unfold Got
      rw [HR.out]
      exact ⟨rfl, HB5.out, fun _ => ⟨_, _, _, _, HL2.out, HM5.out.low (by omega)⟩⟩
    · have HR := Lib.hid (show getR l = (Ent.zero, 5) by unfold getR; rw [HGe.out]; simp only; rw [if_neg hq])
      have HQ := Lib.hid hq
      clear hq
      refine (readEnd_any HA4.out).mono ?_
      rintro e w5 ⟨rfl, ho⟩
      have HB5 := Lib.hid (HB4.out.then (OnlyS.of_only (S := fun b => b = R) ho rfl) fun k hk h => by omega)
      clear ho
      rw [if_neg HQ.out]
      go_wp2_with fail
      refine (must_bad 5 _ (by decide)).mono ?_
      rintro e w5 ⟨rfl, rfl⟩
      refine ⟨rfl, 5, ⟨fun h => absurd h (by decide), fun _ => rfl⟩, ?_⟩
      unfold Got
      rw [HR.out]
      exact ⟨rfl, HB5.out, fun h => absurd h (by decide)⟩

/-- A result that is a variable's struct and a number. -/
theorem ret_ent {fn : Func} {p u : Tmp} (h : fn.results = #[.cell p 62, .tmp u]) (tmps : Array Value) (W : World) (g2 : Nat) (cs : Array Value) (c : Value) (hs : cs.size = 6) (hp : tmps.getD p undef = .pointer (some ⟨g2, 0, none⟩)) (hu : tmps.getD u undef = c)
    (h2 : Blk W g2 62 cs) : (results fn tmps).run Try.prog W = .ok (.tuple #[.agg cs, c]) W := by
  have h6 : (Try.prog.info? 62).map (·.size) = some 6 := by kernel_rfl
  have hl := run_loadVar_row (P := Try.prog) W g2 62 62 cs (0, 0) _ h2 Try.underlying62 rfl (by rw [hs]; exact h6)
  have hp' : tmps[p]?.getD undef = .pointer (some ⟨g2, 0, none⟩) := by simpa using hp
  have hu' : tmps[u]?.getD undef = c := by simpa using hu
  simp [results, h, hp', hu', asAddr, hl, Result.andThen]

set_option maxHeartbeats 4000000 in
theorem get_any (a : Option Addr) (len cap : Nat) (l : List UInt8) (w : World) (hx : Bys w (.slice a len cap) l) (hl : l.length ≤ 140737488351232) :
    Calls Try.prog 98 #[.slice a len cap] w (GetEnd l w) := by
  have hmf : ∀ (fn : Fn) (first cap : Array Value) (w : World), (Instr.makeFunc fn first cap).run Try.prog w = .ok (.func fn first cap) w := fun _ _ _ _ => rfl
  obtain ⟨w0, hw0⟩ : ∃ w0, w0 = (((w.alloc (.cells #[.slice a len cap] 34)).alloc (.cells zeroC 62)).alloc (.cells zeroC 62)) := ⟨_, rfl⟩
  have b1 : Below w.heap.size w w0 := by rw [hw0]; exact (((Below.refl _ _).alloc (Nat.le_refl _) _).alloc (by simp) _).alloc (by simp only [World.size_alloc]; omega) _
  have hs1 : w0.heap.size = w.heap.size + 3 := by rw [hw0]; simp
  have E1 : Blk w0 w.heap.size 34 #[.slice a len cap] := by rw [hw0]; exact ((Blk.new w _ _).alloc _).alloc _
  have E2 : Blk w0 (w.heap.size + 1) 62 zeroC := by
    rw [hw0]
    exact (Blk.newAt (w.alloc (.cells #[.slice a len cap] 34)) 62 zeroC _ (w.heap.size + 1) (by simp) rfl).alloc _
  have E3 : Blk w0 (w.heap.size + 2) 62 zeroC := by
    rw [hw0]
    exact Blk.newAt ((w.alloc (.cells #[.slice a len cap] 34)).alloc (.cells zeroC 62)) 62 zeroC _ (w.heap.size + 2) (by simp) rfl
  have hC := caught_any 104 #[] #[.pointer (some ⟨w.heap.size, 0, none⟩), .pointer (some ⟨w.heap.size + 2, 0, none⟩)] (enters _ (by kernel_rfl)) w0
    (fun c w2 => ∃ w1, Below (w.heap.size + 3) w0 w1 ∧ w1.heap.size = w.heap.size + 4 ∧ Got l w1.heap.size (w.heap.size + 2) w1 c w2)
    (fun w1 hb hs => by
      rw [hs1] at hb hs
      have hb' : Below w0.heap.size w0 w1 := by rw [hs1]; exact hb
      refine (get1_any w.heap.size (w.heap.size + 2) a len cap l w1 (E1.keep hb') (E3.keep hb') ((hx.below (Nat.le_refl _) b1).below (Nat.le_refl _) hb') hl).mono ?_
      rintro e w2 ⟨c, hg, hgot⟩
      refine ⟨c, hg, ⟨w1, hb, hs, hgot⟩, hgot.2.1.size, ?_⟩
      rw [hs1]
      exact hgot.2.1.block _ (by omega) (by omega))
  have HC := Lib.hid hC
  have HB1 := Lib.hid b1
  have HS1 := Lib.hid hs1
  have HE2 := Lib.hid E2
  have HW0 := Lib.hid hw0
  clear hx hl b1 hs1 E1 E2 E3 hC hw0
  go_enter Try.func98, Try.ntmps98
  go_wp2_with fail
  have e0 := HW0.out
  simp only [zeroC] at e0
  rw [← e0]
  clear e0
  refine HC.out.mono ?_
  rintro e w3 ⟨c, w2, ⟨w1, hb1, hs1, h1, h2, h3⟩, rfl, hsz, ho⟩
  rw [HS1.out] at hsz ho
  subst h1
  have hbw : Below w.heap.size w w2 := (HB1.out.trans (hb1.mono (by omega))).trans (h2.below (fun k hk h => by omega) (by omega))
  have hb3 : Below w.heap.size w w3 := hbw.trans (ho.below (fun k hk h => by omega) (by omega))
  have HB3 := Lib.hid hb3
  have hk2 : Blk w3 (w.heap.size + 1) 62 zeroC := ((HE2.out.keep (by rw [HS1.out]; exact hb1)).onlyS h2 (by omega)).onlyS ho (by omega)
  have HK2 := Lib.hid hk2
  have hs3 : w.heap.size + 3 ≤ w3.heap.size := by have := ho.size; omega
  by_cases h0 : (getR l).2 = 0
  · obtain ⟨a', ca', b', cb', h4, h5⟩ := h3 (by omega)
    have h6 : Blk w3 (w.heap.size + 2) 62 (entC (getR l).1 a' ca' b' cb') := h4.onlyS ho (by omega)
    have h7 : Mine w3 (w.heap.size + 4) (getR l).1 a' ca' b' cb' := (h5.far ho (fun k hk e => by omega)).low (by omega)
    obtain ⟨x, hx⟩ : ∃ x, getR l = (x, 0) := ⟨(getR l).1, by rw [← h0]⟩
    have HX := Lib.hid hx
    rw [hx] at h6 h7 ⊢
    have H6 := Lib.hid h6
    have H7 := Lib.hid h7
    have hc0 : (((0 : Nat) : Int) != 0) = false := rfl
    clear h0 h2 h3 h4 h5 h6 h7 hb1 hs1 hbw hb3 hsz ho HC hx hk2
    go_wp2_with (first | (refine wpList_load_by rfl 62 (.tmp 4) rfl _ _ rfl (H6.out.loads 62 _ Try.underlying62 rfl (entC_size _ _ _ _ _)) ?_) | (refine wpList_store_all rfl 62 (.tmp 2) (.tmp 12) rfl (w.heap.size + 1) (entC x a' ca' b' cb') rfl rfl 62 zeroC HK2.out (entC_size _ _ _ _ _) rfl (by simp [entC, Value.oneCell']) ?_; intro w4 hb hos; (have HK4 := Lib.hid hb); (have HB4 := Lib.hid (below_two HB3.out hos (fun k hk e => by omega) (by omega))); (have H74 := Lib.hid (H7.out.far hos (fun k hk e => by omega))); clear hb hos))
    exact bodyPost_ret (v := .tuple #[.agg (entC x a' ca' b' cb'), .int .i64 0]) (ret_ent rfl _ _ (w.heap.size + 1) _ _ rfl rfl rfl HK4.out) rfl (getEnd_ok HX.out (H74.out.low (by omega)) HB4.out)
  · have HX := Lib.hid (show getR l = (Ent.zero, (getR l).2) by rcases getR_cases l with h | h; exact absurd h.1 h0; exact Prod.ext h.2.2 rfl)
    have i0 : (((getR l).2 : Int) != 0) = true := by simp; omega
    obtain ⟨n, hn⟩ : ∃ n, (getR l).2 = n := ⟨_, rfl⟩
    have HN := Lib.hid hn
    rw [hn] at i0 ⊢
    clear h0 h2 h3 hb1 hs1 hbw hb3 hsz ho HC hn hk2
    go_wp2_with (first | (refine wpList_store_all rfl 62 (.tmp 2) (.tmp 10) rfl (w.heap.size + 1) zeroC rfl rfl 62 zeroC HK2.out (entC_size Ent.zero none none 0 0) rfl (by simp [zeroC, Value.oneCell']) ?_; intro w4 hb hos; (have HK4 := Lib.hid hb); (have HB4 := Lib.hid (below_two HB3.out hos (fun k hk e => by omega) (by omega))); clear hb hos))
    exact bodyPost_ret (v := .tuple #[.agg zeroC, .int .i64 (n : Int)]) (ret_ent rfl _ _ (w.heap.size + 1) _ _ rfl rfl rfl HK4.out) rfl (getEnd_err (HX.out.trans (by rw [HN.out])) HB4.out)

end Go.Proofs.Ytgbhfolbkgibfaa

/- The members, read by the reference. -/
namespace Go.Proofs.Ytgbhfolbkgibfaa
set_option maxRecDepth 20000
open Go.RowKit BinMath CmdMath
variable {G : Nat} {a : Option Addr} {cap : Nat}

end Go.Proofs.Ytgbhfolbkgibfaa

/- An entry, read by the reference. -/
namespace Go.Proofs.Ytgbhfolbkgibfaa
set_option maxRecDepth 20000
open Go.RowKit BinMath CmdMath
variable {G : Nat} {a : Option Addr} {cap : Nat}

end Go.Proofs.Ytgbhfolbkgibfaa

/- The reference's Get. -/
namespace Go.Proofs.Ytgbhfolbkgibfaa
set_option maxRecDepth 20000
open Go.RowKit BinMath CmdMath

theorem Mine.below {w w' : World} {B : Nat} {e : Ent} {a b : Option Addr} {ca cb : Nat} (h : Mine w B e a ca b cb) (hb : Below w.heap.size w w') : Mine w' B e a ca b cb :=
  ⟨h.ok, ownsRow_keep h.d hb, h.m.keep hb, h.dl, h.ml⟩

theorem Mine.wrote {w w' : World} {B g : Nat} {e : Ent} {a b : Option Addr} {ca cb : Nat} {cs : Array Value} (h : Mine w B e a ca b cb) (hb : Blk w g 62 cs) (ho : OnlyS (fun b => b = g) w w') : Mine w' B e a ca b cb :=
  ⟨h.ok, row_wrote h.d hb ho, nrow_wrote h.m hb ho, h.dl, h.ml⟩

end Go.Proofs.Ytgbhfolbkgibfaa

/- The bytes of an entry: the reference's. -/
namespace Go.Proofs.Ytgbhfolbkgibfaa
set_option maxRecDepth 20000
open Go.RowKit BinMath CmdMath Reg

end Go.Proofs.Ytgbhfolbkgibfaa

/- copied and awake. -/
namespace Go.Proofs.Ytgbhfolbkgibfaa
set_option maxRecDepth 20000
open Go.RowKit BinMath CmdMath

theorem cells_nums {w : World} {ad : Addr} {l : List Nat} (hc : ∀ i (h : i < l.length), w.cell? (ad.add i) = some (.int .u64 (l[i] : Int))) : ∀ (j : Nat) (u : Value), (l.map uv)[j]? = some u → w.cell? (ad.add j) = some u := by
  intro j u h
  have hj : j < l.length := by have := (List.getElem?_eq_some_iff.1 h).1; simpa using this
  rw [hc j hj]
  simpa [hj, uv] using h

/-- append([]uint64{}, x...): nothing that was there is written. -/
theorem append_num_lit {w : World} {B g : Nat} {x : Value} {l : List Nat} (hB : B ≤ g) (hg : w.heap[g]? = some (.cells #[] 31 (0, 0))) (hx : Nums w x l) (hlen : l.length ≤ 17592186043904) :
    ∃ v' w', (Builtin.append_ #[33, 33] 33 #[.slice (some ⟨g, 0, none⟩) 0 0, x]).run Try.prog w = .ok v' w' ∧ NRow w' B v' l ∧ Below w.heap.size w w' := by
  obtain ⟨i0, hi, hz0, hz1, hz2⟩ := info_parts info_num
  have hlt : g < w.heap.size := (Array.getElem?_eq_some_iff.1 hg).1
  have hrow : w.ownsRow B 31 1 (.slice (some ⟨g, 0, none⟩) 0 0) 0 [] := ⟨rfl, .inr ⟨g, 0, #[], rfl, hB, hg, Nat.le_refl _, by unfold maxLen; omega, rfl, rfl⟩⟩
  rcases hx with ⟨rfl, rfl⟩ | ⟨ad, cap, rfl, -, hc⟩
  · exact ⟨_, w, run_append_owned_none (P := Try.prog) (w := w) B _ _ _ i0 1 Try.underlying33 hi _ 0 [] hrow, hrow, Below.refl _ _⟩
  · by_cases hl : l = []
    · subst hl
      have hr := run_append_room (P := Try.prog) w 33 33 31 i0 Try.underlying33 hi g 0 0 #[] hg ad 0 cap [] (by simp) (by simp) (by simp) (by omega) (by simp)
      refine ⟨_, _, hr, ?_, ⟨rfl, rfl, rfl, by simp, fun k hk => ?_⟩⟩
      · refine ⟨rfl, .inr ⟨g, 0, #[], rfl, hB, ?_, Nat.le_refl _, by unfold maxLen; omega, rfl, rfl⟩⟩
        simpa using setRow_heap w g #[] _ 31 _ hg
      · by_cases hkg : k = g
        · subst hkg
          rw [hg]
          simpa using setRow_heap w k #[] _ 31 _ hg
        · exact setRow_other w g k _ hkg
    · have hpos : 0 < l.length := List.length_pos_iff.2 hl
      have hr := run_append_grow (P := Try.prog) w 33 33 31 i0 (.int .u64 0) Try.underlying33 hi hz0 ⟨g, 0, none⟩ 0 0 [] (by simp) (by simp) ad l.length cap (l.map uv) (by simp [hz1]) (cells_nums hc) (by omega) (by omega) (growslice_fits (by omega) (by rw [hz2]; omega))
      refine ⟨_, _, hr, ?_, (Below.refl _ _).drew.alloc (Nat.le_refl _) _⟩
      have hge := grownCap_ge w (0 + l.length) 0 31
      have hge' := grownCap_ge w l.length 0 31
      have hle := grownCap_le_maxLen w (0 + l.length) 0 31 (by unfold maxLen; omega)
      refine ⟨by simp, .inr ⟨w.heap.size, _, _, by rw [Nat.zero_add], by omega, heap_alloc_new w.drew _, by omega, hle, ?_, ?_⟩⟩
      · simp [size_zeroCells]
        simp [Value.cells]
        omega
      · simp

end Go.Proofs.Ytgbhfolbkgibfaa

/- An entry that came in. -/
namespace Go.Proofs.Ytgbhfolbkgibfaa
set_option maxRecDepth 20000
open Go.RowKit Go.ChangeShapes BinMath CmdMath

theorem six_cells (l : List Value) (h : l.length = 6) : ∃ a b c d e f, l = [a, b, c, d, e, f] := by
  match l, h with
  | [a, b, c, d, e, f], _ => exact ⟨a, b, c, d, e, f, rfl⟩

theorem u64_nat (n : Int) (h : (Lit.int .u64 n).wf = true) : ∃ k : Nat, n = k ∧ k < 18446744073709551616 := by
  have := bounds_u64 h
  exact ⟨n.toNat, by omega, by omega⟩

theorem ent_open {H : Type} {enc : TypeId × Value → H} {W : World} {fuel : Nat} {cs : List Value} {x : DataW H × List MemPlace}
    (h : DataW.trod enc Try.prog W 0 (fun _ => true) true fuel 62 cs = some x) :
    ∃ (e : Ent) (a : Option Addr) (ca : Nat) (b : Option Addr) (cb : Nat), cs = (entC e a ca b cb).toList ∧ e.Ok ∧ Bys W (.slice a e.d.length ca) e.d ∧ Nums W (.slice b e.m.length cb) e.m ∧
      ((x.1.weights Try.prog 62).all (· ≤ reachBytes) = true → e.d.length ≤ 140737488351232 ∧ e.m.length ≤ 17592186043904) := by
  obtain ⟨xs, n', -, hx, hlen, hxl, hfld⟩ := DataW.trod_struct Try.underlying62 h
  have f0 : DataW.trod enc Try.prog W 0 (fun _ => true) true n' 31 ((cs.drop 0).take (Try.prog.cellsOf 31)) = xs[0]? := hfld 0 _ rfl
  have f1 : DataW.trod enc Try.prog W 0 (fun _ => true) true n' 3 ((cs.drop 1).take (Try.prog.cellsOf 3)) = xs[1]? := hfld 1 _ rfl
  have f2 : DataW.trod enc Try.prog W 0 (fun _ => true) true n' 31 ((cs.drop 2).take (Try.prog.cellsOf 31)) = xs[2]? := hfld 2 _ rfl
  have f3 : DataW.trod enc Try.prog W 0 (fun _ => true) true n' 31 ((cs.drop 3).take (Try.prog.cellsOf 31)) = xs[3]? := hfld 3 _ rfl
  have f4 : DataW.trod enc Try.prog W 0 (fun _ => true) true n' 34 ((cs.drop 4).take (Try.prog.cellsOf 34)) = xs[4]? := hfld 4 _ rfl
  have f5 : DataW.trod enc Try.prog W 0 (fun _ => true) true n' 33 ((cs.drop 5).take (Try.prog.cellsOf 33)) = xs[5]? := hfld 5 _ rfl
  have c0 : Try.prog.cellsOf 31 = 1 := by kernel_rfl
  have c1 : Try.prog.cellsOf 3 = 1 := by kernel_rfl
  have c4 : Try.prog.cellsOf 34 = 1 := by kernel_rfl
  have c5 : Try.prog.cellsOf 33 = 1 := by kernel_rfl
  have cr : Try.prog.cellsOf 62 = 6 := by kernel_rfl
  rw [cr] at hlen
  rw [c0] at f0 f2 f3
  rw [c1] at f1
  rw [c4] at f4
  rw [c5] at f5
  obtain ⟨u0, u1, u2, u3, u4, u5, rfl⟩ := six_cells cs hlen
  have l6 : xs.length = 6 := hxl
  rw [List.getElem?_eq_getElem (by omega)] at f0 f1 f2 f3 f4 f5
  obtain ⟨k0, e0, -, w0⟩ := DataW.trod_int Try.underlying31 f0
  obtain ⟨k1, e1, -, w1⟩ := DataW.trod_int Try.underlying3 f1
  obtain ⟨k2, e2, -, w2⟩ := DataW.trod_int Try.underlying31 f2
  obtain ⟨k3, e3, -, w3⟩ := DataW.trod_int Try.underlying31 f3
  simp at e0 e1 e2 e3
  obtain ⟨t, rfl, ht⟩ := u64_nat k0 w0
  have hk := bounds_i64 w1
  obtain ⟨c, rfl, hc⟩ := u64_nat k2 w2
  obtain ⟨s, rfl, hs⟩ := u64_nat k3 w3
  subst e0 e1 e2 e3
  have hw : (x.1.weights Try.prog 62).all (· ≤ reachBytes) = true → (DataW.weightsEach Try.prog [31, 3, 31, 31, 34, 33] (xs.map (·.1))).all (· ≤ reachBytes) = true := by
    rw [hx]
    simp only [DataW.weights, Try.underlying62]
    exact fun h => h
  obtain ⟨A, C, d, g4, hdl, hby⟩ : ∃ A C, ∃ d : List UInt8, u4 = .slice A d.length C ∧ ((x.1.weights Try.prog 62).all (· ≤ reachBytes) = true → d.length ≤ 140737488351232) ∧ Bys W (.slice A d.length C) d := by
    obtain ⟨y, hy⟩ : ∃ y, y = xs[4] := ⟨_, rfl⟩
    rw [← hy] at f4
    obtain ⟨yd, yp⟩ := y
    have f4' : DataW.trod enc Try.prog W 0 (fun _ => true) true n' 34 [u4] = some (yd, yp) := f4
    rcases open_ints Try.underlying34 Try.underlying5 (by kernel_rfl) f4' with ⟨hcs, _⟩ | ⟨x', l', c', zs, hcs, _, hl', hm', hz', hx', hcell', hwz'⟩
    · simp at hcs
      subst hcs
      exact ⟨none, 0, [], rfl, by simp, .inl ⟨rfl, rfl⟩⟩
    · simp at hcs
      subst hcs
      simp only [if_true] at hz'
      obtain ⟨d, hd, hbd⟩ := IsRow.bys (w := W) (a := some x') (len := l') (cap := c') (zs := zs) (.inr ⟨_, rfl, hl', hm', hz', hcell', hwz'⟩)
      subst hd
      refine ⟨some x', c', d, rfl, fun hh => ?_, hbd⟩
      have hyd : yd = _ := (Prod.mk.inj hx').1
      have hs4 := sized_slice (hw hh) (j := 4) (t := 34) (e := 5) (elems := lits .u8 (zs.take d.length)) (spare := lits .u8 (zs.drop d.length)) rfl
        (by rw [List.getElem?_map, List.getElem?_eq_getElem (by omega), ← hy, ← hyd]; rfl) Try.underlying34
      have hb : Try.prog.bytesOf 5 = 1 := by kernel_rfl
      rw [hb] at hs4
      simp only [lits, List.length_map, List.length_take, List.length_drop, reachBytes] at hs4
      omega
  obtain ⟨B, E, m, g5, hml, hmb, hnu⟩ : ∃ A C, ∃ m : List Nat, u5 = .slice A m.length C ∧ ((x.1.weights Try.prog 62).all (· ≤ reachBytes) = true → m.length ≤ 17592186043904) ∧ (∀ y ∈ m, y < 18446744073709551616) ∧ Nums W (.slice A m.length C) m := by
    obtain ⟨y, hy⟩ : ∃ y, y = xs[5] := ⟨_, rfl⟩
    rw [← hy] at f5
    obtain ⟨yd, yp⟩ := y
    have f5' : DataW.trod enc Try.prog W 0 (fun _ => true) true n' 33 [u5] = some (yd, yp) := f5
    rcases open_ints Try.underlying33 Try.underlying31 (by kernel_rfl) f5' with ⟨hcs, _⟩ | ⟨x', l', c', zs, hcs, _, hl', hm', hz', hx', hcell', hwz'⟩
    · simp at hcs
      subst hcs
      exact ⟨none, 0, [], rfl, by simp, by simp, .inl ⟨rfl, rfl⟩⟩
    · simp at hcs
      subst hcs
      simp only [if_true] at hz'
      obtain ⟨m, hm, hmb, hbm⟩ := IsRow.nums (w := W) (a := some x') (len := l') (cap := c') (zs := zs) (.inr ⟨_, rfl, hl', hm', hz', hcell', hwz'⟩)
      subst hm
      refine ⟨some x', c', m, rfl, fun hh => ?_, hmb, hbm⟩
      have hyd : yd = _ := (Prod.mk.inj hx').1
      have hs5 := sized_slice (hw hh) (j := 5) (t := 33) (e := 31) (elems := lits .u64 (zs.take m.length)) (spare := lits .u64 (zs.drop m.length)) rfl
        (by rw [List.getElem?_map, List.getElem?_eq_getElem (by omega), ← hy, ← hyd]; rfl) Try.underlying33
      have hb : Try.prog.bytesOf 31 = 8 := by kernel_rfl
      rw [hb] at hs5
      simp only [lits, List.length_map, List.length_take, List.length_drop, reachBytes] at hs5
      omega
  subst g4 g5
  exact ⟨⟨t, k1, c, s, d, m⟩, A, C, B, E, rfl, ⟨ht, hk.1, Int.lt_of_le_of_lt hk.2 (by decide), hc, hs, hmb⟩, hby, hnu, fun hh => ⟨hdl hh, hml hh⟩⟩

end Go.Proofs.Ytgbhfolbkgibfaa

/- A message in memory: its twelve fields; an entry of a list, loaded. -/
namespace Go.Proofs.Ytgbhfolbkgibfaa
set_option maxRecDepth 20000
open Go.RowKit Go.Maps
open CmdMath (Ent)
open MsgMath (Mg)

/-- The twelve fields. -/
def mgC (m : Mg) (ve vm vg : Value) : Array Value :=
  #[.int .i64 m.k, .int .u64 (m.f : Int), .int .u64 (m.o : Int), .int .u64 (m.t : Int), .int .u64 (m.i : Int), .int .u64 (m.l : Int), .int .u64 (m.c : Int), .int .u64 (m.s : Int), .bool m.y, ve, vm, vg]

/-- What a message's fields lead to, and their ranges. -/
structure MHas (w : World) (m : Mg) (ve vm vg : Value) (us : List EE) : Prop where
  ok : m.Ok
  els : Els w ve us
  all : HasAll w us
  ents : us.map EE.e = m.e
  ms : Nums w vm m.m
  gs : Bys w vg m.g
  ul : us.length ≤ 140737488351232
  ml : m.m.length ≤ 140737488351232
  gl : m.g.length ≤ 140737488351232

theorem MHas.below {w w' : World} {m : Mg} {ve vm vg : Value} {us : List EE} (h : MHas w m ve vm vg us) {B : Nat} (hB : w.heap.size ≤ B) (hb : Below B w w') : MHas w' m ve vm vg us :=
  ⟨h.ok, h.els.below hB hb, h.all.below hB hb, h.ents, h.ms.below hB hb, h.gs.below hB hb, h.ul, h.ml, h.gl⟩

theorem MHas.el {w : World} {m : Mg} {ve vm vg : Value} {us : List EE} (h : MHas w m ve vm vg us) : us.length = m.e.length := by rw [← h.ents, List.length_map]

/-- No message: all fields are zero. -/
theorem MHas.zero (w : World) : MHas w Mg.zero (.slice none 0 0) (.slice none 0 0) (.slice none 0 0) [] :=
  ⟨MsgMath.Mg.Ok.zero, .inl ⟨rfl, rfl⟩, fun u hu => absurd hu List.not_mem_nil, rfl, .inl ⟨rfl, rfl⟩, .inl ⟨rfl, rfl⟩, by simp, by simp [Mg.zero], by simp [Mg.zero]⟩

def zeroM : Array Value := mgC Mg.zero (.slice none 0 0) (.slice none 0 0) (.slice none 0 0)

end Go.Proofs.Ytgbhfolbkgibfaa

/- Layer 18: a message of the call's own memory; a list of entries that grows. -/
namespace Go.Proofs.Ytgbhfolbkgibfaa
set_option maxRecDepth 20000
open Go.RowKit Go.Maps BinMath CmdMath
open MsgMath (Mg)

/-- A list of entries of the call's own, from block B on. -/
def ERow (w : World) (B : Nat) (v : Value) (us : List EE) : Prop := w.ownsRow B 62 6 v us.length (us.flatMap EE.cells)
/-- Their slices, too. -/
def EMine (w : World) (B : Nat) (us : List EE) : Prop := ∀ u ∈ us, Mine w B u.e u.a u.ca u.b u.cb

theorem ERow.nil (w : World) (B : Nat) : ERow w B (.slice none 0 0) [] := World.ownsRow_nil _ _ _ _
theorem ERow.form {w : World} {B : Nat} {v : Value} {us : List EE} (h : ERow w B v us) : ∃ a c, v = .slice a us.length c := by
  rcases h.2 with ⟨rfl, h1⟩ | ⟨g, cap, cur, rfl, -⟩
  · exact ⟨_, _, by rw [h1]⟩
  · exact ⟨_, _, rfl⟩
theorem ERow.els {w : World} {B : Nat} {v : Value} {us : List EE} (h : ERow w B v us) : Els w v us := by
  rcases h.2 with ⟨rfl, h1⟩ | ⟨g, cap, cur, rfl, hB, hg, hn, hm, hs, ht⟩
  · exact .inl ⟨rfl, List.eq_nil_of_length_eq_zero h1⟩
  · refine .inr ⟨⟨g, 0, none⟩, cap, rfl, hn, fun j u hj => ?_⟩
    rw [addr_add, Nat.zero_add, Blk.cell (show Blk w g 62 cur from hg), ← Array.getElem?_toList]
    have hlt := (List.getElem?_eq_some_iff.1 hj).1
    rw [← ht, List.getElem?_take] at hj
    split at hj
    · exact hj
    · cases hj
theorem ERow.to {w w' : World} {B : Nat} {v : Value} {us : List EE} (h : ERow w B v us) (hk : ∀ k, B ≤ k → k < w.heap.size → w'.heap[k]? = w.heap[k]?) : ERow w' B v us :=
  ownsRow_to h fun k e => hk k (World.ownsRow.lt h k e).1 (World.ownsRow.lt h k e).2
theorem EMine.to {w w' : World} {B : Nat} {us : List EE} (h : EMine w B us) (hk : ∀ k, B ≤ k → k < w.heap.size → w'.heap[k]? = w.heap[k]?) : EMine w' B us := fun u hu => by
  have h1 := h u hu
  exact ⟨h1.ok, row_to h1.d fun k e => hk k (World.ownsRow.lt h1.d k e).1 (World.ownsRow.lt h1.d k e).2, h1.m.to fun k e => hk k (World.ownsRow.lt h1.m k e).1 (World.ownsRow.lt h1.m k e).2, h1.dl, h1.ml⟩
theorem ERow.low {w : World} {B B' : Nat} {v : Value} {us : List EE} (h : ERow w B v us) (hB : B' ≤ B) : ERow w B' v us := by
  obtain ⟨h1, h2⟩ := h
  exact ⟨h1, h2.elim .inl fun ⟨g, cap, cur, hv, hb, r⟩ => .inr ⟨g, cap, cur, hv, Nat.le_trans hB hb, r⟩⟩
theorem EMine.low {w : World} {B B' : Nat} {us : List EE} (h : EMine w B us) (hB : B' ≤ B) : EMine w B' us := fun u hu => (h u hu).low hB

theorem info_ent6 : (Try.prog.info? 62).map (fun i => (i.zero, i.size, i.bytes)) = some (some (.agg zeroC), 6, 80) := by kernel_rfl

/-- A message of the call's own memory. -/
structure MOwn (w : World) (B : Nat) (m : Mg) (ve vm vg : Value) (us : List EE) : Prop where
  ok : m.Ok
  els : ERow w B ve us
  all : EMine w B us
  ents : us.map EE.e = m.e
  ms : NRow w B vm m.m
  gs : Row w B vg m.g
  ul : us.length ≤ 1000
  ml : m.m.length ≤ 7
  gl : m.g.length ≤ 16384

theorem MOwn.has {w : World} {B : Nat} {m : Mg} {ve vm vg : Value} {us : List EE} (h : MOwn w B m ve vm vg us) : MHas w m ve vm vg us :=
  ⟨h.ok, h.els.els, fun u hu => (h.all u hu).has, h.ents, h.ms.nums, h.gs.bys, by have := h.ul; omega, by have := h.ml; omega, by have := h.gl; omega⟩
theorem MOwn.to {w w' : World} {B : Nat} {m : Mg} {ve vm vg : Value} {us : List EE} (h : MOwn w B m ve vm vg us) (hk : ∀ k, B ≤ k → k < w.heap.size → w'.heap[k]? = w.heap[k]?) : MOwn w' B m ve vm vg us :=
  ⟨h.ok, h.els.to hk, h.all.to hk, h.ents, h.ms.to fun k e => hk k (World.ownsRow.lt h.ms k e).1 (World.ownsRow.lt h.ms k e).2, row_to h.gs fun k e => hk k (World.ownsRow.lt h.gs k e).1 (World.ownsRow.lt h.gs k e).2, h.ul, h.ml, h.gl⟩
theorem MOwn.below {w w' : World} {B : Nat} {m : Mg} {ve vm vg : Value} {us : List EE} (h : MOwn w B m ve vm vg us) (hb : Below w.heap.size w w') : MOwn w' B m ve vm vg us := h.to fun k _ hk => hb.block k hk
theorem MOwn.low {w : World} {B B' : Nat} {m : Mg} {ve vm vg : Value} {us : List EE} (h : MOwn w B m ve vm vg us) (hB : B' ≤ B) : MOwn w B' m ve vm vg us :=
  ⟨h.ok, h.els.low hB, h.all.low hB, h.ents, nrow_low h.ms hB, row_low h.gs hB, h.ul, h.ml, h.gl⟩
theorem MOwn.zero (w : World) (B : Nat) : MOwn w B Mg.zero (.slice none 0 0) (.slice none 0 0) (.slice none 0 0) [] :=
  ⟨MsgMath.Mg.Ok.zero, ERow.nil _ _, fun u hu => absurd hu List.not_mem_nil, rfl, World.ownsRow_nil _ _ _ _, World.ownsRow_nil _ _ _ _, by simp, by simp [Mg.zero], by simp [Mg.zero]⟩
end Go.Proofs.Ytgbhfolbkgibfaa

/- A message that stays as long as no block from some block on is written. -/
namespace Go.Proofs.Ytgbhfolbkgibfaa
set_option maxRecDepth 20000
open Go.RowKit BinMath CmdMath
open MsgMath (Mg)

/-- What a message leads to stays the same as long as no block from B on is written. -/
def MFar (w : World) (B : Nat) (m : Mg) (ve vm vg : Value) (us : List EE) : Prop :=
  ∀ W : World, (∀ k, B ≤ k → k < w.heap.size → W.heap[k]? = w.heap[k]?) → MHas W m ve vm vg us

theorem MFar.has {w : World} {B : Nat} {m : Mg} {ve vm vg : Value} {us : List EE} (h : MFar w B m ve vm vg us) : MHas w m ve vm vg us := h w fun _ _ _ => rfl
theorem MFar.to {w w' : World} {B : Nat} {m : Mg} {ve vm vg : Value} {us : List EE} (h : MFar w B m ve vm vg us) (hs : w.heap.size ≤ w'.heap.size) (hk : ∀ k, B ≤ k → k < w.heap.size → w'.heap[k]? = w.heap[k]?) : MFar w' B m ve vm vg us :=
  fun W hW => h W fun k h1 h2 => (hW k h1 (Nat.lt_of_lt_of_le h2 hs)).trans (hk k h1 h2)
theorem MFar.below {w w' : World} {B : Nat} {m : Mg} {ve vm vg : Value} {us : List EE} (h : MFar w B m ve vm vg us) (hb : Below w.heap.size w w') : MFar w' B m ve vm vg us := h.to hb.size fun k _ hk => hb.block k hk
theorem MOwn.far {w : World} {B : Nat} {m : Mg} {ve vm vg : Value} {us : List EE} (h : MOwn w B m ve vm vg us) : MFar w B m ve vm vg us := fun _ hW => (h.to hW).has

theorem mgC_info (m : Mg) (ve vm vg : Value) : (Try.prog.info? 36).map (·.size) = some (mgC m ve vm vg).size := by
  have h : (Try.prog.info? 36).map (·.size) = some 12 := by kernel_rfl
  exact h

theorem mgC_one {w : World} {m : Mg} {ve vm vg : Value} {us : List EE} (h : MHas w m ve vm vg us) : (mgC m ve vm vg).all (·.oneCell') = true := by
  obtain ⟨a, ca, rfl⟩ := h.els.form
  obtain ⟨b, cb, rfl⟩ := h.ms.shape
  obtain ⟨d, cd, rfl⟩ := h.gs.shape
  simp [mgC, Value.oneCell']

end Go.Proofs.Ytgbhfolbkgibfaa

