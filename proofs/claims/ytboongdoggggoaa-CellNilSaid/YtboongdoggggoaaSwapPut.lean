/- A disk, and one text on it, in memory; Get, Over, Put. -/
import Derived.Test.YtboongdoggggoaaSwapReplace
namespace Go.Proofs.Ytboongdoggggoaa
set_option maxRecDepth 20000
open Go.RowKit Go.Maps DiskMath SwapMath Reg

theorem IsDisk.put {W : World} {T : Nat → Prop} {d c : Nat} {s : St} (h : IsDisk W T d c s) {x : Nat} (hx : ¬ T x) (i : Nat) (u : Value) : IsDisk (W.setCell ⟨x, i, none⟩ u) T d c s :=
  h.same (fun k hk => heap_set_other (fun e => by subst e; exact hx hk) u) (by simp [World.setCell])

theorem only_put {S : Nat → Prop} {w W : World} (h : OnlyS S w W) {x : Nat} (hx : S x) (i : Nat) (u : Value) : OnlyS S w (W.setCell ⟨x, i, none⟩ u) := h.setCell (fun _ => hx) u

theorem load_bs (W : World) (p : Addr) (v : Value) (h : W.cell? p = some v) : (Instr.loadAt 22 (.pointer (some p))).run Try.prog W = .ok v W := by
  have hagg : (isAgg 22).run Try.prog W = .ok false W := by kernel_rfl
  simp [Instr.loadAt, Instr.sureAddr, loadVar, Sem.run_bind, hagg, h]

theorem load_bool (W : World) (p : Addr) (v : Value) (h : W.cell? p = some v) : (Instr.loadAt 4 (.pointer (some p))).run Try.prog W = .ok v W := by
  have hagg : (isAgg 4).run Try.prog W = .ok false W := by kernel_rfl
  simp [Instr.loadAt, Instr.sureAddr, loadVar, Sem.run_bind, hagg, h]

theorem row_lower {w : World} {B B' : Nat} {v : Value} {l : List UInt8} (h : Row w B v l) (hB : B' ≤ B) : Row w B' v l := by
  refine ⟨h.1, ?_⟩
  rcases h.2 with h0 | ⟨g, cap, cur, h1, h2, h3⟩
  · exact .inl h0
  · exact .inr ⟨g, cap, cur, h1, Nat.le_trans hB h2, h3⟩

/-- A disk, and one text on it; U: their blocks. -/
structure Sw (w : World) (U : Nat → Prop) (x d c : Nat) (q : Nm) (s : St) (t : Tx) (o : Bool) : Prop where
  ex : ∃ T v, IsDisk w T d c s ∧ IsFile w x d q v t.isSome o ∧ Row w 0 v (t.getD []) ∧ ¬ T x ∧ (∀ k, v.ownBlock = some k → ¬ T k ∧ U k) ∧ ∀ k, T k → U k
  ux : U x
  lt : ∀ k, U k → k < w.heap.size
  short : (t.getD []).length ≤ 8388608

section
variable {w w1 w2 w' : World} {U : Nat → Prop} {x d c : Nat} {q : Nm} {s : St} {t : Tx} {o : Bool}

theorem Sw.same (h : Sw w U x d c q s t o) (hs : ∀ k, U k → w'.heap[k]? = w.heap[k]?) (hl : w.heap.size ≤ w'.heap.size) : Sw w' U x d c q s t o := by
  obtain ⟨T, v, h1, h2, h3, h4, h5, h6⟩ := h.ex
  exact ⟨⟨T, v, h1.same (fun k hk => hs k (h6 k hk)) hl, h2.same (hs x h.ux), h3.same fun k hk => hs k (h5 k hk).2, h4, h5, h6⟩, h.ux, fun k hk => Nat.lt_of_lt_of_le (h.lt k hk) hl, h.short⟩

theorem Sw.below (h : Sw w U x d c q s t o) (hb : Below w.heap.size w w') : Sw w' U x d c q s t o := h.same (fun k hk => hb.block k (h.lt k hk)) hb.size

theorem Sw.wide {U' : Nat → Prop} (h : Sw w U x d c q s t o) (hU : ∀ k, U k → U' k) (hlt : ∀ k, U' k → k < w.heap.size) : Sw w U' x d c q s t o := by
  obtain ⟨T, v, h1, h2, h3, h4, h5, h6⟩ := h.ex
  exact ⟨⟨T, v, h1, h2, h3, h4, fun k hk => ⟨(h5 k hk).1, hU k (h5 k hk).2⟩, fun k hk => hU k (h6 k hk)⟩, hU x h.ux, hlt, h.short⟩

theorem Sw.tight {c' : Nat} (h : Sw w U x d c q s t o) (hc : s.sure.length + s.ops.length ≤ c') (h2 : c' ≤ 2000) : Sw w U x d c' q s t o := by
  obtain ⟨T, v, h1, h2', h3, h4, h5, h6⟩ := h.ex
  exact ⟨⟨T, v, h1.tight hc h2, h2', h3, h4, h5, h6⟩, h.ux, h.lt, h.short⟩

/-- What a call leaves that may write blocks U. -/
structure SNx (w : World) (U : Nat → Prop) (x d c : Nat) (q : Nm) (s : St) (t : Tx) (o : Bool) (w' : World) : Prop where
  sw : Sw w' (more w U w') x d c q s t o
  only : OnlyS U w w'

theorem SNx.pre (hb : Below w.heap.size w w1) (hlt : ∀ k, U k → k < w.heap.size) (h : SNx w1 U x d c q s t o w2) : SNx w U x d c q s t o w2 :=
  ⟨h.sw.wide (fun k hk => by
    have := hb.size
    rcases hk with hk | hk
    · exact .inl hk
    · exact .inr ⟨by omega, hk.2⟩) fun k hk => by
    have := hb.size
    have := h.only.size
    rcases hk with hk | hk
    · have := hlt k hk; omega
    · exact hk.2, (OnlyS.of_below (S := U) hb fun k hk _ => hk).trans h.only⟩

theorem SNx.post (h : SNx w U x d c q s t o w1) (hb : Below w1.heap.size w1 w2) : SNx w U x d c q s t o w2 :=
  ⟨(h.sw.below hb).wide (fun k hk => by
    have := hb.size
    rcases hk with hk | hk
    · exact .inl hk
    · exact .inr ⟨hk.1, by omega⟩) fun k hk => by
    have := hb.size
    rcases hk with hk | hk
    · have := h.sw.lt k (.inl hk); omega
    · exact hk.2, h.only.trans (OnlyS.of_below (S := U) hb fun k hk _ => hk)⟩

theorem SNx.blk {B : Nat} {ty : TypeId} {cs : Array Value} (h : SNx w1 U x d c q s t o w2) (hb : Blk w1 B ty cs) (hT : ¬ U B) : Blk w2 B ty cs := by
  unfold Blk
  rw [h.only.block B hb.lt hT]
  exact hb

theorem Sw.file (h : Sw w U x d c q s t o) : ∃ v, IsFile w x d q v t.isSome o := by
  obtain ⟨T, v, h1, h2, h3, h4, h5, h6⟩ := h.ex
  exact ⟨v, h2⟩

theorem Sw.disk (h : Sw w U x d c q s t o) : IsDisk w U d c s := by
  obtain ⟨T, v, h1, h2, h3, h4, h5, h6⟩ := h.ex
  exact h1.wide h6 h.lt

set_option maxHeartbeats 1000000 in
theorem swGet_any (h : Sw w U x d c q s t o) : Calls Try.prog 79 #[.pointer (some ⟨x, 0, none⟩)] w fun e w' => ∃ v', e = .returned (.tuple #[v', .bool t.isSome]) ∧ Row w' w.heap.size v' (t.getD []) ∧ Below w.heap.size w w' := by
  obtain ⟨T, v, h1, h2, h3, h4, h5, h6⟩ := h.ex
  obtain ⟨ta, tc, rfl⟩ := slice_of_row h3
  obtain ⟨l, hl⟩ : ∃ l, l = t.getD [] := ⟨_, rfl⟩
  obtain ⟨b, hb⟩ : ∃ b, b = t.isSome := ⟨_, rfl⟩
  have hs := h.short
  rw [← hl] at h2 h3 hs ⊢
  rw [← hb] at h2 ⊢
  have HF := Lib.hid h2
  have HR := Lib.hid h3
  have HS := Lib.hid hs
  obtain ⟨n, hn⟩ : ∃ n, n = l.length := ⟨_, rfl⟩
  rw [← hn] at HF HR
  clear h h1 h2 h3 h4 h5 h6 hl hb hs hn
  have hG : ∀ W W' : World, Below w.heap.size w W → Below W.heap.size W W' → Below w.heap.size w W' := fun W W' h h' => h.trans (h'.mono h.size)
  go_enter Try.func79, Try.ntmps79
  go_upto_region 1 with fail
  refine region_by [(4, .is (.pointer (some ⟨x, 0, none⟩))), (5, .is (.pointer (some ⟨x, 0, none⟩))), (6, .is (.pointer (some ⟨x, 2, none⟩))), (7, .is (.slice ta n tc)), (8, .row w.heap.size l), (9, .is (.pointer (some ⟨x, 0, none⟩))), (10, .is (.pointer (some ⟨x, 0, none⟩))), (11, .is (.pointer (some ⟨x, 3, none⟩))), (12, .is (.bool b)), (2, .row w.heap.size l), (3, .is (.bool b))] [2, 3] (fun W => Below w.heap.size w W) (by kernel_rfl) (by kernel_rfl) (by kernel_rfl) (by kernel_rfl) (by kernel_rfl) ((Below.refl _ _).drew) ?_ ?_
  · refine ⟨?c0, ?c1, ?c2, ?c3, ?c4, ?c5, ?c6, ?c7, ?c8, ?c9, ?c10, trivial⟩
    case c0 => exact ask_copy (guard_none rfl) (.tmp 0) (.inl rfl) (by intro k hk; cases hk; rfl)
    case c1 => exact ask_exec (guard_none rfl) (.pointer (some ⟨x, 0, none⟩)) rfl rfl (by intro k hk; cases hk; rfl) (fun W hW => by kernel_rfl)
    case c2 => exact ask_field (guard_none rfl) _ (.tmp 5) 2 (.pointer (some ⟨x, 0, none⟩)) (.pointer (some ⟨x, 2, none⟩)) rfl rfl (by intro k hk; cases hk; rfl) (fun W => by kernel_rfl)
    case c3 => exact ask_load (guard_none rfl) _ (.tmp 6) (.pointer (some ⟨x, 2, none⟩)) (.slice ta n tc) rfl rfl (by intro k hk; cases hk; rfl) (fun W hW => load_bs W _ _ (by rw [hW.cell (p := ⟨x, 2, none⟩) (Blk.lt HF.out), (Blk.cell HF.out)]; rfl))
    case c4 => exact ask_call hG (guard_none rfl) _ _ _ #[.slice ta n tc] (.row w.heap.size l) rfl (by kernel_rfl) rfl rfl (by intro k hk; cases hk; rfl) (fun W hW => (clone_any ta n tc l W (HR.out.bys.below (Nat.le_refl _) hW) (by have := HS.out; omega)).mono fun e w' h => by obtain ⟨v, h1, h2, h3⟩ := h; exact ⟨v, h1, row_lower h2 hW.size, h3⟩)
    case c5 => exact ask_copy (guard_none rfl) (.tmp 0) (.inl rfl) (by intro k hk; cases hk; rfl)
    case c6 => exact ask_exec (guard_none rfl) (.pointer (some ⟨x, 0, none⟩)) rfl rfl (by intro k hk; cases hk; rfl) (fun W hW => by kernel_rfl)
    case c7 => exact ask_field (guard_none rfl) _ (.tmp 10) 3 (.pointer (some ⟨x, 0, none⟩)) (.pointer (some ⟨x, 3, none⟩)) rfl rfl (by intro k hk; cases hk; rfl) (fun W => by kernel_rfl)
    case c8 => exact ask_load (guard_none rfl) _ (.tmp 11) (.pointer (some ⟨x, 3, none⟩)) (.bool b) rfl rfl (by intro k hk; cases hk; rfl) (fun W hW => load_bool W _ _ (by rw [hW.cell (p := ⟨x, 3, none⟩) (Blk.lt HF.out), (Blk.cell HF.out)]; rfl))
    case c9 => exact ask_copy (guard_none rfl) (.tmp 8) (.inr rfl) (by intro k hk; cases hk; rfl)
    case c10 => exact ask_copy (guard_none rfl) (.tmp 12) (.inr rfl) (by intro k hk; cases hk; rfl)
  · intro af W1 hW hd' hs' hf'
    have t2 : Row W1 w.heap.size (af.tmps.getD 2 undef) l := hf' 2 rfl
    have t3 : af.tmps.getD 3 undef = .bool b := hf' 3 rfl
    obtain ⟨us, hus, haf⟩ := act_open 13 af hs' hd'
    rw [← hus] at t2 t3
    have el : ((List.range 13).map us).toArray = #[us 0, us 1, us 2, us 3, us 4, us 5, us 6, us 7, us 8, us 9, us 10, us 11, us 12] := rfl
    rw [el] at haf
    subst haf
    rw [t3]
    have HB1 := Lib.hid hW
    clear hus t3 el hf' hs' hd' hW
    go_wp2
    go_ret2
    exact ⟨_, rfl, t2, HB1.out⟩

/-- What Put answers. -/
def saysC (c : Nat) : Nat := if c = 0 then 0 else if c = 7 then 7 else 6

def PutEnd (w : World) (U : Nat → Prop) (x d c : Nat) (q : Nm) (t : Tx) (b : List UInt8) (Y : Nat) (Z : St) (w' : World) : Prop :=
  (Y = 0 → SNx w U x d c q Z (some b) false w') ∧ (Y = 7 → SNx w U x d c q Z t false w') ∧ (Y ≠ 0 → Y ≠ 7 → SNx w U x d c q Z t true w')

set_option maxHeartbeats 2000000 in
theorem swPut_any {b : List UInt8} {ta : Option Addr} {tn tc : Nat} (hq : wn q) (h : Sw w U x d c q s t false) (ht : Bys w (.slice ta tn tc) b) (htn : b.length = tn) (hn : tn ≤ 4194304) (hta : b ≠ [] → ∀ ad, ta = some ad → ad.block < w.heap.size ∧ ¬ U ad.block) (hc : c + 3 ≤ 2000) :
    Calls Try.prog 83 #[.pointer (some ⟨x, 0, none⟩), .slice ta tn tc] w fun e w' => e = .returned (.int .i64 (saysC (swA q s b).1 : Int)) ∧ PutEnd w U x d (c + 3) q t b (swA q s b).1 (swA q s b).2 w' := by
  obtain ⟨Y, Z, hYZ⟩ : ∃ Y Z, (Y, Z) = swA q s b := ⟨_, _, rfl⟩
  have hY : (swA q s b).1 = Y := by rw [← hYZ]
  have hZ : (swA q s b).2 = Z := by rw [← hYZ]
  obtain ⟨T, v, h1, h2, h3, h4, h5, h6⟩ := h.ex
  have hrep := replace_any hq h1 h2 h4 ht htn hn hc
  rw [hY, hZ] at hrep ⊢
  have HRep := Lib.hid hrep
  obtain ⟨va, vc, rfl⟩ := slice_of_row h3
  have c4 : w.cell? ⟨x, 4, none⟩ = some (.bool false) := by rw [Blk.cell h2]; rfl
  obtain ⟨vn, hvn⟩ : ∃ vn, vn = (t.getD []).length := ⟨_, rfl⟩
  obtain ⟨tb, htb⟩ : ∃ tb, tb = t.isSome := ⟨_, rfl⟩
  rw [← hvn] at h2 h3 h5
  rw [← htb] at h2
  have HD := Lib.hid h1
  have HF := Lib.hid h2
  have HRow := Lib.hid h3
  have HX := Lib.hid h4
  have H5 := Lib.hid h5
  have H6 := Lib.hid h6
  have HU := Lib.hid h.ux
  have HLt := Lib.hid h.lt
  have HSh := Lib.hid h.short
  have HTb := Lib.hid htb
  have HTa := Lib.hid hta
  have HBy := Lib.hid ht
  have HTn := Lib.hid htn
  have HN := Lib.hid hn
  clear hYZ hY hZ hq h ht htn hn hta hc h1 h2 h3 h4 h5 h6 hrep hvn htb
  go_enter Try.func83, Try.ntmps83
  go_wp2_with fail
  refine HRep.out.mono ?_
  rintro e w3 ⟨rfl, hnx⟩
  have hf3 := hnx.isFile HF.out HX.out
  have hr3 : Row w3 0 (.slice va vn vc) (t.getD []) := HRow.out.same fun k hk => hnx.only.block k (HRow.out.lt hk).2 (H5.out k hk).1
  have hxm : ¬ more w T w3 x := more_not HX.out HF.out.lt
  have hby3 : Bys w3 (.slice ta tn tc) b := bys_same HBy.out fun hb ad e => hnx.only.block _ (HTa.out hb ad e).1 fun hT => (HTa.out hb ad e).2 (H6.out _ hT)
  have hou : OnlyS U w w3 := hnx.only.mono fun k _ hk => H6.out k hk
  have h5' : ∀ k, (Value.slice va vn vc).ownBlock = some k → ¬ more w T w3 k ∧ U k := fun k hk => ⟨more_not (H5.out k hk).1 (HRow.out.lt hk).2, (H5.out k hk).2⟩
  have h6' : ∀ k, more w T w3 k → more w U w3 k := fun k hk => hk.imp (H6.out k) id
  have hsz := hnx.only.size
  have c2 : w3.cell? ⟨x, 2, none⟩ = some (.slice va vn vc) := by rw [Blk.cell hf3]; rfl
  have c3 : w3.cell? ⟨x, 3, none⟩ = some (.bool tb) := by rw [Blk.cell hf3]; rfl
  have c4' : w3.cell? ⟨x, 4, none⟩ = some (.bool false) := by rw [Blk.cell hf3]; rfl
  have f4 : w3.frozen? ⟨x, 4, none⟩ = false := Blk.frozen hf3 4
  have HD3 := Lib.hid hnx.disk
  have HF3 := Lib.hid hf3
  have HR3 := Lib.hid hr3
  have HXm := Lib.hid hxm
  have HBy3 := Lib.hid hby3
  have HO3 := Lib.hid hou
  have H5' := Lib.hid h5'
  have H6' := Lib.hid h6'
  have HSz := Lib.hid hsz
  clear hnx hf3 hr3 hxm hby3 hou h5' h6' hsz c4 HRep
  have hlt' : ∀ W : World, w3.heap.size ≤ W.heap.size → ∀ k, more w U W k → k < W.heap.size := fun W hW k hk => by
    have := HSz.out
    rcases hk with hk | hk
    · have := HLt.out k hk; omega
    · exact hk.2
  have HLt' := Lib.hid hlt'
  clear hlt'
  by_cases hy0 : Y = 0
  · subst hy0
    clear c4' f4
    go_wp2_with fail
    refine (clone_any ta tn tc b w3 HBy3.out (by have := HTn.out; have := HN.out; omega)).mono ?_
    rintro e w4 ⟨v', rfl, hr4, hb4⟩
    obtain ⟨va', vc', rfl⟩ := slice_of_row hr4
    have hf4 := HF3.out.below hb4
    have d2 : w4.cell? ⟨x, 2, none⟩ = some (.slice va vn vc) := by rw [Blk.cell hf4]; rfl
    have d3 : w4.cell? ⟨x, 3, none⟩ = some (.bool tb) := by rw [Blk.cell hf4]; rfl
    have f2 : w4.frozen? ⟨x, 2, none⟩ = false := Blk.frozen hf4 2
    have f3 : w4.frozen? ⟨x, 3, none⟩ = false := Blk.frozen hf4 3
    have HB4 := Lib.hid hb4
    have HR4 := Lib.hid hr4
    have HF4 := Lib.hid hf4
    obtain ⟨bn, hbn⟩ : ∃ bn, bn = b.length := ⟨_, rfl⟩
    rw [← hbn] at HR4 ⊢
    clear hr4 hb4 hf4 c2 c3 hbn
    go_wp2
    go_ret
    refine ⟨rfl, fun _ => ?_, fun h => absurd h (by decide), fun h => absurd rfl h⟩
    have ox : ∀ k, (Value.slice va' bn vc').ownBlock = some k → k ≠ x := fun k hk e => by
      have := (HR4.out.lt hk).1
      have := HF3.out.lt
      omega
    have s0 : ∀ (W : World) (i : Nat) (u : Value), (W.setCell ⟨x, i, none⟩ u).heap.size = W.heap.size := fun W i u => by simp [World.setCell]
    have b4 := HB4.out.size
    have z3 := HSz.out
    refine ⟨⟨⟨more w T w3, .slice va' bn vc', (((HD3.out.below HB4.out).put HXm.out 2 _).put HXm.out 3 _), Blk.set (Blk.set HF4.out 2 _) 3 _, ?_, HXm.out, fun k hk => ⟨?_, .inr ⟨?_, ?_⟩⟩, fun k hk => ?_⟩, .inl HU.out, HLt'.out _ (by rw [s0, s0]; exact b4), ?_⟩, ?_⟩
    · refine row_lower (B := w3.heap.size) ?_ (Nat.zero_le _)
      exact HR4.out.same fun k hk => by rw [heap_set_other (ox k hk), heap_set_other (ox k hk)]
    · rintro (h1 | h1)
      · have := HD3.out.lt k (.inl h1); have := (HR4.out.lt hk).1; omega
      · have := (HR4.out.lt hk).1; omega
    · have := (HR4.out.lt hk).1; omega
    · rw [s0, s0]; exact (HR4.out.lt hk).2
    · rcases H6'.out k hk with h1 | h1
      · exact .inl h1
      · exact .inr ⟨h1.1, by rw [s0, s0]; omega⟩
    · have := HTn.out; have := HN.out; show b.length ≤ 8388608; omega
    · exact only_put (only_put (HO3.out.trans (OnlyS.of_below (S := U) HB4.out fun k hk _ => hk)) HU.out 2 _) HU.out 3 _
  by_cases hy7 : Y = 7
  · subst hy7
    go_wp2
    go_ret
    refine ⟨rfl, fun h => absurd h (by decide), fun _ => ?_, fun _ h => absurd rfl h⟩
    exact ⟨⟨⟨more w T w3, .slice va vn vc, HD3.out, by rw [← HTb.out]; exact HF3.out, HR3.out, HXm.out, fun k hk => ⟨(H5'.out k hk).1, .inl (H5'.out k hk).2⟩, H6'.out⟩, .inl HU.out, HLt'.out _ (Nat.le_refl _), HSh.out⟩, HO3.out⟩
  have z0 : ((Y : Int) == 0) = false := by simp; omega
  have z7 : ((Y : Int) == 7) = false := by simp; omega
  have hs : saysC Y = 6 := by unfold saysC; rw [if_neg hy0, if_neg hy7]
  have HS := Lib.hid hs
  have H0 := Lib.hid hy0
  have H7 := Lib.hid hy7
  clear hs hy0 hy7 c2 c3
  go_wp2
  go_ret
  refine ⟨by rw [HS.out]; rfl, fun h => absurd h H0.out, fun h => absurd h H7.out, fun _ _ => ?_⟩
  have ox : ∀ k, (Value.slice va vn vc).ownBlock = some k → k ≠ x := fun k hk e => by
    subst e
    exact row_ne_blk HR3.out HF3.out (by decide) hk
  have s0 : ∀ (W : World) (i : Nat) (u : Value), (W.setCell ⟨x, i, none⟩ u).heap.size = W.heap.size := fun W i u => by simp [World.setCell]
  refine ⟨⟨⟨more w T w3, .slice va vn vc, HD3.out.put HXm.out 4 _, by rw [← HTb.out]; exact Blk.set HF3.out 4 _, HR3.out.same (fun k hk => by rw [heap_set_other (ox k hk)]), HXm.out, fun k hk => ⟨(H5'.out k hk).1, .inl (H5'.out k hk).2⟩, fun k hk => ?_⟩, .inl HU.out, HLt'.out _ (by rw [s0]; exact Nat.le_refl _), HSh.out⟩, only_put HO3.out HU.out 4 _⟩
  rcases H6'.out k hk with h1 | h1
  · exact .inl h1
  · exact .inr ⟨h1.1, by rw [s0]; exact h1.2⟩

theorem swPut_over {b : Value} (h : Sw w U x d c q s t true) :
    Calls Try.prog 83 #[.pointer (some ⟨x, 0, none⟩), b] w fun e w' => e = .returned (.int .i64 6) ∧ w' = w := by
  obtain ⟨v, hf⟩ := h.file
  have c4 : w.cell? ⟨x, 4, none⟩ = some (.bool true) := by rw [Blk.cell hf]; rfl
  clear h hf
  go_enter Try.func83, Try.ntmps83
  go_wp2
  go_ret
  exact ⟨rfl, rfl⟩
end
end Go.Proofs.Ytboongdoggggoaa
