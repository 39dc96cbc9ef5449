/- Joined: NetSendNot, NetDuo, NetSendYes. -/
import Derived.Test.YtgbhfolbkgibfaaLAY
import Derived.Test.YtgbhfolbkgibfaaLBA
import Derived.Test.YtgbhfolbkgibfaaMsgRefFormedL
import Derived.Test.YtgbhfolbkgibfaaLBB
import Derived.Test.YtgbhfolbkgibfaaLAR
import Derived.Test.YtgbhfolbkgibfaaLAH
/- Layer 19's reference: Send, where it refuses. -/
namespace Go.Proofs.Ytgbhfolbkgibfaa
set_option maxRecDepth 20000
open Go.RowKit BinMath NetMath
open MsgMath (Mg formedM)

/-- The reference's net in memory. -/
structure RNet (w : World) (R : Nat) (n : Nt) (vL vW : Value) (xs : List MM) : Prop where
  blk : Blk w R 30 #[vL, vW]
  row : MRow w 0 vL xs
  has : MMHas w xs
  ways : Ways w vW n.W
  ms : xs.map MM.m = n.L
  ll : xs.length ≤ 256
  wl : n.W.length ≤ 1000

theorem RNet.below {w w' : World} {R : Nat} {n : Nt} {vL vW : Value} {xs : List MM} (h : RNet w R n vL vW xs) (hb : Below w.heap.size w w') : RNet w' R n vL vW xs :=
  ⟨h.blk.keep hb, ownsRow_keep h.row hb, h.has.below (Nat.le_refl _) hb, h.ways.below (Nat.le_refl _) hb, h.ms, h.ll, h.wl⟩
theorem RNet.len {w : World} {R : Nat} {n : Nt} {vL vW : Value} {xs : List MM} (h : RNet w R n vL vW xs) : xs.length = n.L.length := by rw [← h.ms, List.length_map]
theorem MRow.form {w : World} {B : Nat} {v : Value} {xs : List MM} (h : MRow w B v xs) : ∃ a c, v = .slice a xs.length c := by
  rcases h.2 with ⟨h1, h0⟩ | ⟨g, cap, cur, h1, -⟩
  · exact ⟨none, 0, by rw [h1, h0]⟩
  · exact ⟨_, _, h1⟩

set_option maxHeartbeats 2000000 in
theorem refSend_not (R : Nat) (n : Nt) (vL vW : Value) (xs : List MM) (x : MM) (w : World) (h : RNet w R n vL vW xs) (hx : x.Has w) (hs : (n.send x.m).1 ≠ 0) :
    Calls Try.prog 11 #[.pointer (some ⟨R, 0, none⟩), .agg (mgC x.m x.ve x.vm x.vg)] w fun e w' => e = .returned (.int .i64 ((n.send x.m).1 : Int)) ∧ Below w.heap.size w w' := by
  obtain ⟨m, ve, vm, vg, us⟩ := x
  have hm : MHas w m ve vm vg us := hx
  simp only at hs ⊢
  have b1 : Below w.heap.size w (w.alloc (.cells (mgC m ve vm vg) 36)) := (Below.refl _ _).alloc (Nat.le_refl _) _
  have HB1 := Lib.hid b1
  have HE := Lib.hid (Blk.new w 36 (mgC m ve vm vg))
  have HF := Lib.hid (refMsgFormed_any m ve vm vg us _ (hm.below (Nat.le_refl _) b1))
  have HNt := Lib.hid (h.below b1)
  obtain ⟨k, hk⟩ : ∃ k, k = n.send m := ⟨_, rfl⟩
  rw [← hk] at hs ⊢
  have HK := Lib.hid hk
  unfold Nt.send at hk
  obtain ⟨f, hf⟩ : ∃ f, f = formedM m := ⟨_, rfl⟩
  rw [← hf] at hk HF
  clear hm hx b1 h
  cases f with
  | false =>
    rw [if_pos rfl] at hk
    subst hk
    clear hs HK hf
    go_enter Try.func11, Try.ntmps11
    go_wp2_with (refine wpList_load_by rfl 36 (.tmp 3) rfl _ _ rfl (HE.out.loads 36 _ Try.underlying36 rfl (mgM_info _ _ _ _)) ?_)
    refine HF.out.mono ?_
    rintro e w2 ⟨rfl, hb⟩
    have HB2 := Lib.hid (HB1.out.trans (hb.mono HB1.out.size))
    clear hb
    go_wp2
    go_ret
    exact ⟨rfl, HB2.out⟩
  | true =>
    rw [if_neg (by decide)] at hk
    have hbl := fun (W : World) (hW : Below (w.alloc (.cells (mgC m ve vm vg) 36)).heap.size (w.alloc (.cells (mgC m ve vm vg) 36)) W) => refBlocked_any R vL vW n.W m.f m.o W (HNt.out.below hW).blk (HNt.out.below hW).ways (by have := HNt.out.wl; omega)
    obtain ⟨q, hq⟩ : ∃ q, q = n.blocked m.f m.o := ⟨_, rfl⟩
    have hq2 : decide ((m.f, m.o) ∈ n.W) = q := by rw [hq]; rfl
    rw [hq2] at hbl
    rw [← hq] at hk
    have HBl := Lib.hid hbl
    clear hbl hq hq2 hf
    go_enter Try.func11, Try.ntmps11
    go_wp2_with (refine wpList_load_by rfl 36 (.tmp 3) rfl _ _ rfl (HE.out.loads 36 _ Try.underlying36 rfl (mgM_info _ _ _ _)) ?_)
    refine HF.out.mono ?_
    rintro e w2 ⟨rfl, hb⟩
    have HB2 := Lib.hid (HB1.out.trans (hb.mono HB1.out.size))
    have hE2 := HE.out.keep hb
    have c1 : w2.cell? ⟨w.heap.size, 1, none⟩ = some (.int .u64 (m.f : Int)) := by rw [hE2.cell]; rfl
    have c2 : w2.cell? ⟨w.heap.size, 2, none⟩ = some (.int .u64 (m.o : Int)) := by rw [hE2.cell]; rfl
    have HQ := Lib.hid (HBl.out w2 hb)
    have HNt2 := Lib.hid (HNt.out.below hb)
    clear hb hE2
    go_wp2_with fail
    refine HQ.out.mono ?_
    rintro e w3 ⟨rfl, rfl⟩
    cases q with
    | true =>
      rw [if_pos rfl] at hk
      subst hk
      clear hs HK
      go_wp2
      go_ret
      exact ⟨rfl, HB2.out⟩
    | false =>
      rw [if_neg (by decide)] at hk
      by_cases h256 : 256 ≤ n.L.length
      · rw [if_pos h256] at hk
        subst hk
        obtain ⟨a, c, rfl⟩ := HNt2.out.row.form
        obtain ⟨l, hl⟩ : ∃ l, l = xs.length := ⟨_, rfl⟩
        have hl2 : (256 : Int) ≤ (l : Int) := by have := HNt2.out.len; omega
        have c0 : w3.cell? ⟨R, 0, none⟩ = some (.slice a l c) := by rw [HNt2.out.blk.cell, hl]; rfl
        clear hs HK h256 hl
        go_wp2
        go_ret
        exact ⟨rfl, HB2.out⟩
      · rw [if_neg h256] at hk
        subst hk
        exact absurd rfl hs
end Go.Proofs.Ytgbhfolbkgibfaa

/- Layer 19: the program's net and the reference's, apart, with their messages and ways. -/
namespace Go.Proofs.Ytgbhfolbkgibfaa
set_option maxRecDepth 20000
open Go.RowKit Go.Maps BinMath NetMath
open MsgMath (Mg formedM)

/-- Both nets, from the block Z on: n is what the program's holds, q the reference's; the messages lie outside the nets' blocks, and outside X. -/
structure Duo (hp : NetProg) (Z : Nat) (X : Nat → Prop) (W : World) (P R : Nat) (n q : Nt) (U : Nat → Prop) (vL vW : Value) (xs : List MM) : Prop where
  is_ : hp.Is W P n U
  uz : ∀ k, U k → Z ≤ k
  blk : Blk W R 30 #[vL, vW]
  rz : Z ≤ R
  nr : ¬ U R
  lrow : MRow W Z vL xs
  lap : ∀ k, vL.ownBlock = some k → ¬ U k
  wrow : WRow W Z vW q.W
  wap : ∀ k, vW.ownBlock = some k → ¬ U k
  has : ∀ y ∈ xs, Stay W (fun k => U k ∨ k = R ∨ X k) 0 (fun V => y.Has V)
  ms : xs.map MM.m = q.L
  ll : xs.length ≤ 256
  zl : Z ≤ W.heap.size

section
variable {hp : NetProg} {Z : Nat} {X : Nat → Prop} {W W' : World} {P R : Nat} {n n' q q' : Nt} {U U' : Nat → Prop} {vL vL' vW vW' : Value} {xs xs' : List MM}

theorem Duo.ne_l (h : Duo hp Z X W P R n q U vL vW xs) : vL.ownBlock ≠ some R := ownsRow_apart h.lrow h.blk (by decide)
theorem Duo.ne_w (h : Duo hp Z X W P R n q U vL vW xs) : vW.ownBlock ≠ some R := ownsRow_apart h.wrow h.blk (by decide)

/-- What is the same where the nets' own blocks alone were written. -/
theorem Duo.l_to (h : Duo hp Z X W P R n q U vL vW xs) (ho : OnlyS (fun k => U k ∨ k = R) W W') : MRow W' Z vL xs :=
  ownsRow_to h.lrow fun k e => ho.block k (World.ownsRow.lt h.lrow k e).2 fun e2 => e2.elim (h.lap k e) fun e2 => h.ne_l (e2 ▸ e)
theorem Duo.w_to (h : Duo hp Z X W P R n q U vL vW xs) (ho : OnlyS (fun k => U k ∨ k = R) W W') : WRow W' Z vW q.W :=
  ownsRow_to h.wrow fun k e => ho.block k (World.ownsRow.lt h.wrow k e).2 fun e2 => e2.elim (h.wap k e) fun e2 => h.ne_w (e2 ▸ e)
theorem Duo.l_ap (h : Duo hp Z X W P R n q U vL vW xs) (hU : ∀ k, U' k → U k ∨ W.heap.size ≤ k) : ∀ k, vL.ownBlock = some k → ¬ U' k :=
  fun k e e2 => (hU k e2).elim (h.lap k e) fun e3 => by have := (World.ownsRow.lt h.lrow k e).2; omega
theorem Duo.w_ap (h : Duo hp Z X W P R n q U vL vW xs) (hU : ∀ k, U' k → U k ∨ W.heap.size ≤ k) : ∀ k, vW.ownBlock = some k → ¬ U' k :=
  fun k e e2 => (hU k e2).elim (h.wap k e) fun e3 => by have := (World.ownsRow.lt h.wrow k e).2; omega

theorem Duo.move (h : Duo hp Z X W P R n q U vL vW xs) (hi : hp.Is W' P n' U') (hU : ∀ k, U' k → U k ∨ W.heap.size ≤ k) (ho : OnlyS (fun k => U k ∨ k = R) W W') (hb : Blk W' R 30 #[vL', vW']) (hl : MRow W' Z vL' xs') (hla : ∀ k, vL'.ownBlock = some k → ¬ U' k)
    (hw : WRow W' Z vW' q'.W) (hwa : ∀ k, vW'.ownBlock = some k → ¬ U' k) (hx : ∀ y ∈ xs', y ∈ xs ∨ Stay W' (fun k => U' k ∨ k = R ∨ X k) 0 (fun V => y.Has V)) (hm : xs'.map MM.m = q'.L) (hll : xs'.length ≤ 256) : Duo hp Z X W' P R n' q' U' vL' vW' xs' where
  is_ := hi
  uz := fun k e => (hU k e).elim (h.uz k) (Nat.le_trans h.zl)
  blk := hb
  rz := h.rz
  nr := fun e => (hU R e).elim h.nr fun e2 => by have := h.blk.lt; omega
  lrow := hl
  lap := hla
  wrow := hw
  wap := hwa
  has := fun y hy => (hx y hy).elim (fun e => (h.has y e).step ho (fun _ _ e => e.imp id .inl) fun k hk e => e.elim (fun e => .inl ((hU k e).resolve_right (by omega))) .inr) id
  ms := hm
  ll := hll
  zl := Nat.le_trans h.zl ho.size

theorem Duo.below (h : Duo hp Z X W P R n q U vL vW xs) (hb : Below W.heap.size W W') : Duo hp Z X W' P R n q U vL vW xs :=
  h.move (hp.keep h.is_ (OnlyS.of_below (S := fun _ => False) hb fun _ hk _ => hk) fun _ _ e => e.elim) (fun _ e => .inl e) (OnlyS.of_below hb fun _ hk _ => hk) (h.blk.keep hb) (ownsRow_keep h.lrow hb) h.lap (ownsRow_keep h.wrow hb) h.wap (fun _ e => .inl e) h.ms h.ll

/-- The program's net has moved on. -/
theorem Duo.prog (h : Duo hp Z X W P R n q U vL vW xs) {p : Ending → World → Prop} {e : Ending} (hn : NetEnd hp.Is P U n' W p e W') : p e W' ∧ ∃ U', Duo hp Z X W' P R n' q U' vL vW xs ∧ (∀ k, U' k → U k ∨ W.heap.size ≤ k) ∧ OnlyS U W W' := by
  obtain ⟨h1, ho, U', h2, h3⟩ := hn
  have ho' : OnlyS (fun k => U k ∨ k = R) W W' := ho.mono fun _ _ e => .inl e
  exact ⟨h1, U', h.move h2 h3 ho' (h.blk.onlyS ho h.nr) (h.l_to ho') (h.l_ap h3) (h.w_to ho') (h.w_ap h3) (fun _ e => .inl e) h.ms h.ll, h3, ho⟩

/-- The reference's net has other messages, or other ways. -/
theorem Duo.refr (h : Duo hp Z X W P R n q U vL vW xs) (ho : OnlyS (fun k => k = R) W W') (hb : Blk W' R 30 #[vL', vW]) (hl : MRow W' W.heap.size vL' xs') (hx : ∀ y ∈ xs', y ∈ xs ∨ Stay W (fun k => U k ∨ k = R ∨ X k) 0 (fun V => y.Has V)) (hm : xs'.map MM.m = q'.L) (hW : q'.W = q.W) (hll : xs'.length ≤ 256) : Duo hp Z X W' P R n q' U vL' vW xs' := by
  have ho' : OnlyS (fun k => U k ∨ k = R) W W' := ho.mono fun _ _ e => .inr e
  refine h.move (hp.keep h.is_ ho fun k _ e e2 => h.nr (e ▸ e2)) (fun _ e => .inl e) ho' hb (ownsRow_from hl h.zl) (fun k e e2 => ?_) (by rw [hW]; exact h.w_to ho') h.wap (fun y e => (hx y e).imp id fun e => e.step ho (fun _ _ e => .inr (.inl e)) fun _ _ e => e) hm hll
  have := (World.ownsRow.lt hl k e).1
  have := hp.lt h.is_ k e2
  omega
theorem Duo.refw (h : Duo hp Z X W P R n q U vL vW xs) (ho : OnlyS (fun k => k = R) W W') (hb : Blk W' R 30 #[vL, vW']) (hw : WRow W' W.heap.size vW' q'.W) (hL : q'.L = q.L) : Duo hp Z X W' P R n q' U vL vW' xs := by
  have ho' : OnlyS (fun k => U k ∨ k = R) W W' := ho.mono fun _ _ e => .inr e
  refine h.move (hp.keep h.is_ ho fun k _ e e2 => h.nr (e ▸ e2)) (fun _ e => .inl e) ho' hb (h.l_to ho') h.lap (ownsRow_from hw h.zl) (fun k e e2 => ?_) (fun _ e => .inl e) (by rw [hL]; exact h.ms) h.ll
  have := (World.ownsRow.lt hw k e).1
  have := hp.lt h.is_ k e2
  omega

theorem Duo.rnet (h : Duo hp Z X W P R n q U vL vW xs) (hw : q.W.length ≤ 1000) : RNet W R q vL vW xs :=
  ⟨h.blk, ownsRow_from h.lrow (Nat.zero_le _), fun y hy => (h.has y hy).now, WRow.ways h.wrow, h.ms, h.ll, hw⟩
theorem Duo.len (h : Duo hp Z X W P R n q U vL vW xs) : q.L.length = xs.length := by rw [← h.ms, List.length_map]

/-- From here on blocks of X, new ones, may be written. -/
theorem Duo.open {X' : Nat → Prop} (h : Duo hp Z X W P R n q U vL vW xs) (hb : Below W.heap.size W W') (hX : ∀ k, X' k → X k ∨ W.heap.size ≤ k) : Duo hp Z X' W' P R n q U vL vW xs :=
  { h.below hb with has := fun y hy => (h.has y hy).step (OnlyS.of_below (S := fun _ => False) hb fun _ hk _ => hk) (fun _ _ e => e.elim) fun k hk e => e.elim .inl fun e => e.elim (fun e => .inr (.inl e)) fun e => .inr (.inr ((hX k e).resolve_right (by omega))) }
/-- Blocks of X are written. -/
theorem Duo.write {S : Nat → Prop} (h : Duo hp Z X W P R n q U vL vW xs) (ho : OnlyS S W W') (hS : ∀ k, S k → X k) (hU : ∀ k, U k → ¬ S k) (hR : ¬ S R) (hL : ∀ k, vL.ownBlock = some k → ¬ S k) (hW : ∀ k, vW.ownBlock = some k → ¬ S k) : Duo hp Z X W' P R n q U vL vW xs where
  is_ := hp.keep h.is_ ho fun k _ e e2 => hU k e2 e
  uz := h.uz
  blk := h.blk.onlyS ho hR
  rz := h.rz
  nr := h.nr
  lrow := ownsRow_to h.lrow fun k e => ho.block k (World.ownsRow.lt h.lrow k e).2 (hL k e)
  lap := h.lap
  wrow := ownsRow_to h.wrow fun k e => ho.block k (World.ownsRow.lt h.wrow k e).2 (hW k e)
  wap := h.wap
  has := fun y hy => (h.has y hy).step ho (fun _ _ e => .inr (.inr (hS _ e))) fun _ _ e => e
  ms := h.ms
  ll := h.ll
  zl := Nat.le_trans h.zl ho.size
theorem Duo.free (h : Duo hp Z X W P R n q U vL vW xs) : Duo hp Z (fun _ => False) W P R n q U vL vW xs := h.open (Below.refl _ _) fun _ e => e.elim
end
end Go.Proofs.Ytgbhfolbkgibfaa

/- Layer 19's reference: Send, where it takes the message; Twice. -/
namespace Go.Proofs.Ytgbhfolbkgibfaa
set_option maxRecDepth 20000
open Go.RowKit Go.Maps BinMath NetMath Reg
open MsgMath (Mg formedM)

theorem elem_msgs : Try.prog.elem 27 = 36 := by kernel_rfl

/-- 'v[:n:n]'. -/
theorem slice_full (a : Option Addr) (n c : Nat) (hk : n ≤ c) (W : World) : (Instr.sliceAt 27 (.slice a n c) none (some (.int .i64 (n : Int))) (some (.int .i64 (n : Int)))).run Try.prog W = .ok (.slice a n n) W := by
  have hs : (Go.sizeOf 36).run Try.prog W = .ok 12 W := by kernel_rfl
  have ht : Try.prog.underlying 27 = some (.slice (Try.prog.elem 27)) := by rw [elem_msgs]; exact Try.underlying27
  rw [run_sliceAt_slice _ _ _ _ _ _ ht, run_slice_hm _ _ _ _ _ ht .i64 .i64 (n : Int) (n : Int) (by omega) (Int.le_refl _) (by omega), elem_msgs, hs]
  cases a with
  | none => simp [Result.andThen, sliced]
  | some ad => simp [Result.andThen, sliced, Addr.add]

/-- append to a slice that is full: always a new array. -/
theorem append_full {w : World} {a : Option Addr} {n c : Nat} {xs : List MM} (h : MRow w 0 (.slice a n c) xs) (hn : xs.length = n) (hl : xs.length ≤ 1000) (x : MM) (g : Nat) (hg : Blk w g 36 (mgC x.m x.ve x.vm x.vg)) :
    ∃ v' w', (Builtin.append_ #[27, 27] 27 #[.slice a n n, .slice (some ⟨g, 0, none⟩) 1 1]).run Try.prog w = .ok v' w' ∧ MRow w' w.heap.size v' (xs ++ [x]) ∧ Below w.heap.size w w' := by
  obtain ⟨i0, hi, hz0, hz1, hz2⟩ := info_parts info_msg12
  subst hn
  have hnews : ∀ j u, x.cells[j]? = some u → w.cell? ((⟨g, 0, none⟩ : Addr).add j) = some u := fun j u hj => by rw [addr_add, Nat.zero_add, hg.cell]; simpa [MM.cells] using hj
  have hlen : (xs.flatMap MM.cells ++ x.cells).length = (xs.length + 1) * 12 := by rw [List.length_append, mms_len, MM.cells_len]; omega
  have hfm : (xs ++ [x]).flatMap MM.cells = xs.flatMap MM.cells ++ x.cells := by simp
  have grown : ∀ (old : Nat), old < xs.length + 1 → MRow (w.drew.alloc (.cells ((xs.flatMap MM.cells).toArray ++ x.cells.toArray ++ Builtin.zeroCells (Value.agg zeroM).cells (grownCap w (xs.length + 1) old 36 - (xs.length + 1))) 36)) w.heap.size
      (.slice (some ⟨w.heap.size, 0, none⟩) (xs.length + 1) (grownCap w (xs.length + 1) old 36)) (xs ++ [x]) := by
    intro old ho
    have hge := grownCap_ge w (xs.length + 1) old 36
    have hcm : grownCap w (xs.length + 1) old 36 ≤ maxLen := grownCap_le_maxLen w (xs.length + 1) old 36 (by unfold maxLen; omega)
    unfold MRow
    rw [List.length_append, hfm]
    refine ⟨hlen, .inr ⟨w.heap.size, _, _, rfl, Nat.le_refl _, heap_alloc_new w.drew _, hge, hcm, ?_, ?_⟩⟩
    · have h12 : (Value.agg zeroM).cells.size = 12 := rfl
      simp only [Array.size_append, List.size_toArray, size_zeroCells, h12, mms_len, MM.cells_len]
      omega
    · simp only [Array.toList_append, List.append_assoc]
      rw [← List.append_assoc]
      show ((xs.flatMap MM.cells ++ x.cells) ++ _).take ((xs.length + 1) * 12) = _
      rw [← hlen]
      exact List.take_left
  have hb : ∀ o : Obj, Below w.heap.size w (w.drew.alloc o) := fun o => (Below.refl _ w).drew.alloc (Nat.le_refl _) _
  have h0 := h
  rcases h.2 with ⟨hv, hn0⟩ | ⟨g', cap, cur, hv, hbg, hg', hnc, hcm, hcs, htake⟩
  · simp only [Value.slice.injEq] at hv
    obtain ⟨rfl, -, -⟩ := hv
    have hx0 : xs = [] := List.eq_nil_of_length_eq_zero hn0
    subst hx0
    have hr := run_append_nil (P := Try.prog) w 27 27 36 i0 (.agg zeroM) Try.underlying27 hi hz0 ⟨g, 0, none⟩ 1 1 x.cells (by rw [hz1]; rfl) hnews (by omega) (by omega) (by rw [hz2]; omega)
    have hgr := grown 0 (by omega)
    simp only [List.flatMap_nil, Array.empty_append, List.length_nil, Nat.zero_add] at hgr ⊢
    exact ⟨_, _, hr, hgr, hb _⟩
  · simp only [Value.slice.injEq] at hv
    obtain ⟨rfl, -, rfl⟩ := hv
    have holds : ∀ j u, (xs.flatMap MM.cells)[j]? = some u → w.cell? ((⟨g', 0, none⟩ : Addr).add j) = some u := World.ownsRow.cells (g := g') h0 rfl
    have hr := run_append_grow (P := Try.prog) w 27 27 36 i0 (.agg zeroM) Try.underlying27 hi hz0 ⟨g', 0, none⟩ xs.length xs.length (xs.flatMap MM.cells) (by rw [mms_len, hz1]) holds ⟨g, 0, none⟩ 1 1 x.cells (by rw [hz1]; rfl) hnews (by omega) (by omega) (growslice_fits (by omega) (by rw [hz2]; omega))
    exact ⟨_, _, hr, grown xs.length (by omega), hb _⟩

/-- One message as a literal. -/
def oneF (cs : Array Value) : Fact := .sat (fun v W => ∃ g, v = .slice (some ⟨g, 0, none⟩) 1 1 ∧ Blk W g 36 cs) fun _ _ _ ⟨g, h1, h2⟩ hb => ⟨g, h1, h2.keep hb⟩
/-- The new list. -/
def newF (B : Nat) (xs : List MM) : Fact := .sat (fun v W => MRow W B v xs) fun _ _ _ h hb => ownsRow_keep h hb

theorem run_build_mm (w : World) (cs : Array Value) (hc : cs.size = 12) : (Instr.buildSlice 27 1 #[(0, .agg cs)]).run Try.prog w = .ok (.slice (some ⟨w.heap.size, 0, none⟩) 1 1) (w.alloc (.cells cs 36)) := by
  obtain ⟨i, hi, hz0, hz1, hz2⟩ := info_parts info_msg12
  refine run_buildSlice w _ _ 1 _ cs i _ Try.underlying27 hi hz0 (by rw [hz1]; decide) (by rw [hz1]; decide) ?_
  rw [hz1]
  have := Go.Great.fill_whole (s := 12) (by decide) [.agg cs] ((Array.range (1 * 12)).map ((Value.agg zeroM).cells[· % (Value.agg zeroM).cells.size]!)) (by simp [Value.cells, hc]) (by simp)
  simpa [Value.cells] using this

section
variable {ops : Array Oper} {tab : List (List Nat)} {fin : List Tmp} {G : World → Prop} {f : Tmp → Fact} {i : Nat} {o : Oper}
theorem ask_build_mm (hG : ∀ W W', G W → Below W.heap.size W W' → G W') (hg : guardOk ops f o) (s : Operand) (cs : Array Value) (hc : cs.size = 12) (ho : o.op = .buildSlice 27 1 #[(0, s)]) (hs : opFact f s = .is (.agg cs)) (hd : ∀ k, o.dst = some k → f k = oneF cs) : Asked Try.prog ops tab fin G f i o := by
  refine ask_grow hG hg fun y W hW hk => ?_
  have e := evalBy_opVal hk s (by rw [ho]; simp [Op.operands]) hs
  have hr := run_build_mm W cs hc
  refine gives_value (v := .slice (some ⟨W.heap.size, 0, none⟩) 1 1) (w' := W.alloc (.cells cs 36)) ?_ ⟨(Below.refl _ _).alloc (Nat.le_refl _) _, fun k hk => by rw [hd k hk]; exact ⟨_, rfl, Blk.new W _ _⟩⟩
  simp [execOp, ho, hr, e, Result.andThen]

theorem ask_append_full (hG : ∀ W W', G W → Below W.heap.size W W' → G W') (hg : guardOk ops f o) (s t : Operand) (a : Option Addr) (n c B : Nat) (xs : List MM) (x : MM) (hn : xs.length = n) (hl : xs.length ≤ 1000) (hty : o.type = 27)
    (ho : o.op = .call { callee := .builtin .append, args := #[s, t], argTypes := #[27, 27] }) (hs : opFact f s = .is (.slice a n n)) (ht : opFact f t = oneF (mgC x.m x.ve x.vm x.vg))
    (hr : ∀ W, G W → MRow W 0 (.slice a n c) xs ∧ B ≤ W.heap.size) (hd : ∀ k, o.dst = some k → f k = newF B (xs ++ [x])) : Asked Try.prog ops tab fin G f i o := by
  refine ask_grow hG hg fun y W hW hk => ?_
  have e1 := evalBy_opVal hk s (by rw [ho]; simp [Op.operands, Call.operands]) hs
  have h2 := told_op hk t (by rw [ho]; simp [Op.operands, Call.operands])
  rw [ht] at h2
  obtain ⟨g, e2, hg2⟩ := h2
  obtain ⟨v', w', hrun, h3, h4⟩ := append_full (hr W hW).1 hn hl x g hg2
  refine gives_value (v := v') (w' := w') ?_ ⟨h4, fun k hk => by rw [hd k hk]; exact ⟨h3.1, h3.2.elim .inl fun ⟨g, cap, cur, hv, hb, r⟩ => .inr ⟨g, cap, cur, hv, Nat.le_trans (hr W hW).2 hb, r⟩⟩⟩
  simp [execOp, ho, resolve, invoke, builtin, hty, e1, e2, hrun, Result.andThen]
end

theorem load_ml (W : World) (p : Addr) (v : Value) (h : W.cell? p = some v) : (Instr.loadAt 27 (.pointer (some p))).run Try.prog W = .ok v W := by
  have hagg : (isAgg 27).run Try.prog W = .ok false W := by kernel_rfl
  simp [Instr.loadAt, Instr.sureAddr, loadVar, Sem.run_bind, hagg, h]

/-- How a call that puts a message behind the others ends. -/
def RPut (R : Nat) (vW : Value) (xs' : List MM) (w : World) (e : Ending) (w' : World) : Prop :=
  e = .returned (.int .i64 0) ∧ (∃ vL', Blk w' R 30 #[vL', vW] ∧ MRow w' w.heap.size vL' xs') ∧ OnlyS (fun k => k = R) w w'

theorem rPut_end {w w' w5 : World} {R : Nat} {vL' vW : Value} {xs : List MM} (hb : Below w.heap.size w w') (hR : R < w.heap.size) (hrow : MRow w' w.heap.size vL' xs) (hz : Blk w5 R 30 #[vL', vW]) (ho : OnlyS (fun k => k = R) w' w5) : RPut R vW xs w (.returned (.int .i64 0)) w5 :=
  ⟨rfl, ⟨vL', hz, ownsRow_to hrow fun k hk => ho.block k (World.ownsRow.lt hrow k hk).2 (fun e => by have e : k = R := e; have := (World.ownsRow.lt hrow k hk).1; omega)⟩, (OnlyS.of_below (S := fun k => k = R) hb fun _ hk _ => hk).trans ho⟩

set_option maxHeartbeats 4000000 in
theorem refSend_yes (R : Nat) (n : Nt) (vL vW : Value) (xs : List MM) (x : MM) (w : World) (h : RNet w R n vL vW xs) (hx : x.Has w) (hs : (n.send x.m).1 = 0) :
    Calls Try.prog 11 #[.pointer (some ⟨R, 0, none⟩), .agg (mgC x.m x.ve x.vm x.vg)] w (RPut R vW (xs ++ [x]) w) := by
  obtain ⟨m, ve, vm, vg, us⟩ := x
  have hm : MHas w m ve vm vg us := hx
  simp only at hs ⊢
  have b1 : Below w.heap.size w (w.alloc (.cells (mgC m ve vm vg) 36)) := (Below.refl _ _).alloc (Nat.le_refl _) _
  have HB1 := Lib.hid b1
  have HE := Lib.hid (Blk.new w 36 (mgC m ve vm vg))
  have hfm := refMsgFormed_any m ve vm vg us _ (hm.below (Nat.le_refl _) b1)
  have HNt := Lib.hid (h.below b1)
  have hRw : R < w.heap.size := h.blk.lt
  obtain ⟨hf, hq, h256⟩ : formedM m = true ∧ n.blocked m.f m.o = false ∧ n.L.length < 256 := by
    unfold Nt.send at hs
    by_cases h1 : formedM m = false
    · rw [if_pos h1] at hs
      cases hs
    · rw [if_neg h1] at hs
      by_cases h2 : n.blocked m.f m.o = true
      · rw [if_pos h2] at hs
        cases hs
      · rw [if_neg h2] at hs
        by_cases h3 : 256 ≤ n.L.length
        · rw [if_pos h3] at hs
          cases hs
        · exact ⟨by simpa using h1, by simpa using h2, by omega⟩
  rw [hf] at hfm
  have HF := Lib.hid hfm
  have hbl := fun (W : World) (hW : Below (w.alloc (.cells (mgC m ve vm vg) 36)).heap.size (w.alloc (.cells (mgC m ve vm vg) 36)) W) => refBlocked_any R vL vW n.W m.f m.o W (HNt.out.below hW).blk (HNt.out.below hW).ways (by have := HNt.out.wl; omega)
  have hq2 : decide ((m.f, m.o) ∈ n.W) = false := hq
  rw [hq2] at hbl
  have HBl := Lib.hid hbl
  obtain ⟨a, c, rfl⟩ := h.row.form
  obtain ⟨l, hl⟩ : ∃ l, l = xs.length := ⟨_, rfl⟩
  have hl2 : (l : Int) < 256 := by have := h.len; omega
  have HLn := Lib.hid hl.symm
  have HL1 := Lib.hid (show xs.length ≤ 1000 by have := h.ll; omega)
  have HLc := Lib.hid (show l ≤ c by
    rcases h.row.2 with ⟨h1, h0⟩ | ⟨g, cap, cur, h1, -, -, hn, -⟩
    · omega
    · cases h1
      omega)
  rw [← hl] at HNt
  have HRow0 := Lib.hid (show MRow w 0 (.slice a l c) xs by have := h.row; rwa [← hl] at this)
  clear hm hx b1 h hf hq hq2 h256 hs hfm hbl hl
  go_enter Try.func11, Try.ntmps11
  go_wp2_with (refine wpList_load_by rfl 36 (.tmp 3) rfl _ _ rfl (HE.out.loads 36 _ Try.underlying36 rfl (mgM_info _ _ _ _)) ?_)
  refine HF.out.mono ?_
  rintro e w2 ⟨rfl, hb⟩
  have HB2 := Lib.hid (HB1.out.trans (hb.mono HB1.out.size))
  have hE2 := HE.out.keep hb
  have c1 : w2.cell? ⟨w.heap.size, 1, none⟩ = some (.int .u64 (m.f : Int)) := by rw [hE2.cell]; rfl
  have c2 : w2.cell? ⟨w.heap.size, 2, none⟩ = some (.int .u64 (m.o : Int)) := by rw [hE2.cell]; rfl
  have HQ := Lib.hid (HBl.out w2 hb)
  have HR3 := Lib.hid (HNt.out.below hb).blk
  have HE3 := Lib.hid hE2
  clear hb hE2 HNt HBl HF HE
  go_wp2_with fail
  refine HQ.out.mono ?_
  rintro e w3 ⟨rfl, rfl⟩
  have c0 : w3.cell? ⟨R, 0, none⟩ = some (.slice a l c) := by rw [HR3.out.cell]; rfl
  have HLd := Lib.hid (fun (W : World) (hW : Below w3.heap.size w3 W) => load_ml W ⟨R, 0, none⟩ (.slice a l c) (by rw [(HR3.out.keep hW).cell]; rfl))
  have HRow := Lib.hid (show MRow w3 0 (.slice a l c) xs from ownsRow_to HRow0.out fun k hk => HB2.out.block k (World.ownsRow.lt HRow0.out k hk).2)
  have HSz := Lib.hid HB2.out.size
  obtain ⟨E, hE⟩ : ∃ E, E = w.heap.size := ⟨_, rfl⟩
  rw [← hE] at HE3
  have HEq := Lib.hid hE
  go_upto_region 7 with fail
  clear c0 c1 c2 hl2
  rw [← HEq.out]
  clear hE
  have hG : ∀ W W' : World, Below w3.heap.size w3 W → Below W.heap.size W W' → Below w3.heap.size w3 W' := fun W W' hW hb => hW.trans (hb.mono hW.size)
  refine region_tail_by 21 _ [(20, .is (.pointer (some ⟨R, 0, none⟩))), (21, .is (.pointer (some ⟨R, 0, none⟩))), (22, .is (.pointer (some ⟨R, 0, none⟩))), (23, .is (.pointer (some ⟨R, 0, none⟩))), (24, .is (.slice a l c)), (25, .is (.pointer (some ⟨R, 0, none⟩))), (26, .is (.pointer (some ⟨R, 0, none⟩))), (27, .is (.pointer (some ⟨R, 0, none⟩))), (28, .is (.slice a l c)), (29, .is (.int .i64 (l : Int))), (30, .is (.pointer (some ⟨R, 0, none⟩))), (31, .is (.pointer (some ⟨R, 0, none⟩))), (32, .is (.pointer (some ⟨R, 0, none⟩))), (33, .is (.slice a l c)), (34, .is (.int .i64 (l : Int))), (35, .is (.slice a l l)), (36, .is (.agg (mgC m ve vm vg))), (37, oneF (mgC m ve vm vg)), (38, newF w.heap.size (xs ++ [⟨m, ve, vm, vg, us⟩])), (39, .is (.pointer (some ⟨R, 0, none⟩))), (40, .is (.pointer (some ⟨R, 0, none⟩)))] [0, 1, 2, 3, 4, 38, 40] (fun W => Below w3.heap.size w3 W) (by kernel_rfl) (by kernel_rfl) (by kernel_rfl) (by kernel_rfl) (by kernel_rfl) rfl rfl rfl rfl (by kernel_rfl) ((Below.refl _ _).drew) ?_ ?_
  · refine ⟨?c0, ?c1, ?c2, ?c3, ?c4, ?c5, ?c6, ?c7, ?c8, ?c9, ?c10, ?c11, ?c12, ?c13, ?c14, ?c15, ?c16, ?c17, ?c18, ?c19, ?c20, trivial⟩
    case c0 => exact ask_copy (guard_none rfl) (.tmp 0) (.inl rfl) (by intro k hk; cases hk; rfl)
    case c1 => exact ask_copy (guard_none rfl) (.tmp 0) (.inl rfl) (by intro k hk; cases hk; rfl)
    case c2 => exact ask_exec (guard_none rfl) (.pointer (some ⟨R, 0, none⟩)) rfl rfl (by intro k hk; cases hk; rfl) (fun W hW => by kernel_rfl)
    case c3 => exact ask_field (guard_none rfl) _ (.tmp 22) 0 (.pointer (some ⟨R, 0, none⟩)) (.pointer (some ⟨R, 0, none⟩)) rfl rfl (by intro k hk; cases hk; rfl) (fun W => by kernel_rfl)
    case c4 => exact ask_load (guard_none rfl) _ (.tmp 23) (.pointer (some ⟨R, 0, none⟩)) (.slice a l c) rfl rfl (by intro k hk; cases hk; rfl) (fun W hW => HLd.out W hW)
    case c5 => exact ask_copy (guard_none rfl) (.tmp 0) (.inl rfl) (by intro k hk; cases hk; rfl)
    case c6 => exact ask_exec (guard_none rfl) (.pointer (some ⟨R, 0, none⟩)) rfl rfl (by intro k hk; cases hk; rfl) (fun W hW => by kernel_rfl)
    case c7 => exact ask_field (guard_none rfl) _ (.tmp 26) 0 (.pointer (some ⟨R, 0, none⟩)) (.pointer (some ⟨R, 0, none⟩)) rfl rfl (by intro k hk; cases hk; rfl) (fun W => by kernel_rfl)
    case c8 => exact ask_load (guard_none rfl) _ (.tmp 27) (.pointer (some ⟨R, 0, none⟩)) (.slice a l c) rfl rfl (by intro k hk; cases hk; rfl) (fun W hW => HLd.out W hW)
    case c9 => exact ask_len (guard_none rfl) (.tmp 28) 27 a l c rfl (by rw [elem_msgs]; exact Try.underlying27) rfl (by intro k hk; cases hk; rfl)
    case c10 => exact ask_copy (guard_none rfl) (.tmp 0) (.inl rfl) (by intro k hk; cases hk; rfl)
    case c11 => exact ask_exec (guard_none rfl) (.pointer (some ⟨R, 0, none⟩)) rfl rfl (by intro k hk; cases hk; rfl) (fun W hW => by kernel_rfl)
    case c12 => exact ask_field (guard_none rfl) _ (.tmp 31) 0 (.pointer (some ⟨R, 0, none⟩)) (.pointer (some ⟨R, 0, none⟩)) rfl rfl (by intro k hk; cases hk; rfl) (fun W => by kernel_rfl)
    case c13 => exact ask_load (guard_none rfl) _ (.tmp 32) (.pointer (some ⟨R, 0, none⟩)) (.slice a l c) rfl rfl (by intro k hk; cases hk; rfl) (fun W hW => HLd.out W hW)
    case c14 => exact ask_len (guard_none rfl) (.tmp 33) 27 a l c rfl (by rw [elem_msgs]; exact Try.underlying27) rfl (by intro k hk; cases hk; rfl)
    case c15 => exact ask_slice (guard_none rfl) _ (.tmp 24) none (some (.tmp 29)) (some (.tmp 34)) (.slice a l c) (.slice a l l) none (some (.int .i64 (l : Int))) (some (.int .i64 (l : Int))) rfl rfl rfl rfl rfl (by intro k hk; cases hk; rfl) (fun W => slice_full a l c HLc.out W)
    case c16 => exact ask_load (guard_none rfl) _ (.tmp 3) (.pointer (some ⟨E, 0, none⟩)) (.agg (mgC m ve vm vg)) rfl rfl (by intro k hk; cases hk; rfl) (fun W hW => Blk.loads (P := Try.prog) (HE3.out.keep hW) 36 _ Try.underlying36 rfl (mgM_info _ _ _ _))
    case c17 => exact ask_build_mm hG (guard_none rfl) (.tmp 36) (mgC m ve vm vg) rfl rfl rfl (by intro k hk; cases hk; rfl)
    case c18 => exact ask_append_full hG (guard_none rfl) (.tmp 35) (.tmp 37) a l c w.heap.size xs ⟨m, ve, vm, vg, us⟩ HLn.out HL1.out (by kernel_rfl) rfl rfl rfl (fun W hW => ⟨ownsRow_keep HRow.out hW, Nat.le_trans HSz.out hW.size⟩) (by intro k hk; cases hk; rfl)
    case c19 => exact ask_exec (guard_none rfl) (.pointer (some ⟨R, 0, none⟩)) rfl rfl (by intro k hk; cases hk; rfl) (fun W hW => by kernel_rfl)
    case c20 => exact ask_field (guard_none rfl) _ (.tmp 39) 0 (.pointer (some ⟨R, 0, none⟩)) (.pointer (some ⟨R, 0, none⟩)) rfl rfl (by intro k hk; cases hk; rfl) (fun W => by kernel_rfl)
  · intro a' W hW hd' hs' hf'
    have t0 : a'.tmps.getD 0 undef = .pointer (some ⟨R, 0, none⟩) := hf' 0 rfl
    have t1 : a'.tmps.getD 1 undef = .agg (mgC m ve vm vg) := hf' 1 rfl
    have t2 : a'.tmps.getD 2 undef = undef := hf' 2 rfl
    have t3 : a'.tmps.getD 3 undef = .pointer (some ⟨E, 0, none⟩) := hf' 3 rfl
    have t4 : a'.tmps.getD 4 undef = .int .i64 0 := hf' 4 rfl
    have hrow : MRow W w.heap.size (a'.tmps.getD 38 undef) (xs ++ [⟨m, ve, vm, vg, us⟩]) := hf' 38 rfl
    have tp : a'.tmps.getD 40 undef = .pointer (some ⟨R, 0, none⟩) := hf' 40 rfl
    obtain ⟨us', hus, ha'⟩ := act_open 41 a' hs' hd'
    rw [← hus] at hrow tp t0 t1 t2 t3 t4
    have el : ((List.range 41).map us').toArray = #[us' 0, us' 1, us' 2, us' 3, us' 4, us' 5, us' 6, us' 7, us' 8, us' 9, us' 10, us' 11, us' 12, us' 13, us' 14, us' 15, us' 16, us' 17, us' 18, us' 19, us' 20, us' 21, us' 22, us' 23, us' 24, us' 25, us' 26, us' 27, us' 28, us' 29, us' 30, us' 31, us' 32, us' 33, us' 34, us' 35, us' 36, us' 37, us' 38, us' 39, us' 40] := rfl
    rw [el] at ha'
    subst ha'
    rw [t0, t1, t2, t3, t4, tp]
    obtain ⟨v', hv'⟩ : ∃ v', v' = us' 38 := ⟨_, rfl⟩
    rw [← hv'] at hrow ⊢
    obtain ⟨na, nc, hvs⟩ := hrow.form
    obtain ⟨nl, hnl⟩ : ∃ nl, nl = (xs ++ [(⟨m, ve, vm, vg, us⟩ : MM)]).length := ⟨_, rfl⟩
    rw [← hnl] at hvs
    subst hvs
    have HNew := Lib.hid hrow
    have HW := Lib.hid hW
    clear hrow hW hd' hs' hf' hus el hv' hnl tp t0 t1 t2 t3 t4
    go_wp2_with (refine wpList_store_fld rfl 27 (.tmp 40) (.tmp 38) rfl R 0 (.slice na nl nc) rfl rfl 30 #[.slice a l c, vW] #[.slice na nl nc, vW] (HR3.out.keep HW.out) (by simp) rfl (by kernel_rfl) rfl ?_; intro w5 hb ho; (have HZ := Lib.hid hb); (have HO := Lib.hid ho); clear hb ho)
    go_ret
    exact rPut_end (HB2.out.trans (HW.out.mono HB2.out.size)) hRw HNew.out HZ.out HO.out
end Go.Proofs.Ytgbhfolbkgibfaa

