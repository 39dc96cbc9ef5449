/- The reference's Do: a remove, a rename, a cut. -/
import Derived.Test.YtabddeoeihlnnaaRefWith
import Derived.Test.YtabddeoeihlnnaaTailTo
namespace Go.Proofs.Ytabddeoeihlnnaa
open Go.RowKit Go.Maps DiskMath Reg

/-- How Do ends: files of their own, or the same; their bytes old or new. -/
structure DoEnd (w : World) (v : Value) (G : Gf) (op : AOp) (u : Value) (w' : World) : Prop where
  ex : ∃ G', Fls w' u G' ∧ pr G' = doA op (pr G) ∧ ∀ j, fk u G' j → fk v G j ∨ w.heap.size ≤ j
  bel : Below w.heap.size w w'

theorem made_fls {W w' : World} {u v : Value} {G G' : Gf} (hF : Fls W v G) (hm : Made W u G' w') (h : ∀ p ∈ G', p ∈ G ∨ Row W 0 p.2.1 p.2.2) : Fls w' u G' :=
  ⟨hm.row, fun p hp => by
    rcases h p hp with h | h
    · exact (hF.text p h).below hm.bel
    · exact h.below hm.bel⟩

theorem DoEnd.made {w W w' : World} {u v : Value} {G G' : Gf} {op : AOp} (hb : Below w.heap.size w W) (hF : Fls W v G) (hm : Made W u G' w') (h : ∀ p ∈ G', p ∈ G ∨ (Row W 0 p.2.1 p.2.2 ∧ ∀ j, p.2.1.ownBlock = some j → foot G j ∨ w.heap.size ≤ j)) (hp : pr G' = doA op (pr G)) : DoEnd w v G op u w' :=
  ⟨⟨G', made_fls hF hm fun p hp => (h p hp).imp id (·.1), hp, fun j hj => by
    rcases hj with hj | ⟨p, hp, hj⟩
    · exact .inr (Nat.le_trans hb.size (hm.new j hj))
    · rcases h p hp with h | h
      · exact .inl (.inr ⟨p, h, hj⟩)
      · exact (h.2 j hj).imp .inr id⟩, hb.trans (hm.bel.mono hb.size)⟩

theorem DoEnd.refl {w W : World} {v : Value} {G : Gf} {op : AOp} (hb : Below w.heap.size w W) (hF : Fls W v G) (hp : pr G = doA op (pr G)) : DoEnd w v G op v W :=
  ⟨⟨G, hF, hp, fun _ hj => .inl hj⟩, hb⟩

theorem doA_none {l : Fs} {k : Nat} {n q : Nm} {a : Nat} {b : List UInt8} (hk : k ≠ 0) (h : getA n l = none) : doA ⟨k, n, q, a, b⟩ l = l := by
  unfold doA
  simp only
  rw [if_neg hk, h]

theorem pr_get_none {G : Gf} {n : Nm} (h : getA n G = none) : getA n (pr G) = none := by rw [pr_get, h]; rfl
theorem pr_get_some {G : Gf} {n : Nm} {x : Value × List UInt8} (h : getA n G = some x) : getA n (pr G) = some x.2 := by rw [pr_get, h]; rfl

/-- The cells of an operation of the reference's. -/
abbrev opR (k : Int) (N M : ByteArray) (a : Int) (v : Value) : Array Value := #[.int .i64 k, .string N, .string M, .int .i64 a, v]

set_option maxHeartbeats 1000000 in
theorem dor_remove {w : World} {ba : Option Addr} {lb cb : Nat} {v : Value} {G : Gf} {n : Nm} {N M : ByteArray} (h : Fls w v G) (hl : G.length ≤ 50000) (hN : nm n = .string N) :
    Calls Try.prog 51 #[v, .agg (opR 3 N M 0 (.slice ba lb cb))] w fun e w' => ∃ u, e = .returned u ∧ DoEnd w v G ⟨2, n, [], 0, []⟩ u w' := by
  have hb1 : Below w.heap.size w (w.alloc (.cells (opR 3 N M 0 (.slice ba lb cb)) 83)) := (Below.refl _ _).alloc (Nat.le_refl _) _
  have hF := h.below hb1
  have HB1 := Lib.hid hb1
  have HF := Lib.hid hF
  have HFind := Lib.hid (find_any (n := n) hF (by omega))
  have HWo := Lib.hid (without_any (n := n) hF (by omega))
  rw [hN] at HFind HWo
  obtain ⟨va, vc, hv⟩ := h.slice
  subst hv
  obtain ⟨L, hL⟩ : ∃ L, L = G.length := ⟨_, rfl⟩
  rw [← hL] at HFind HWo HF ⊢
  clear h hl hb1 hF hN hL
  go_enter Try.func51, Try.ntmps51
  go_wp2_with fail
  refine HFind.out.mono ?_
  rintro e w' ⟨⟨i, rfl, hat⟩, rfl⟩
  rcases hat with ⟨rfl, hg⟩ | ⟨j, x, rfl, hj, hg⟩
  · have HE : Hid (DoEnd w (.slice va L vc) G ⟨2, n, [], 0, []⟩ (.slice va L vc) (w.alloc (.cells (opR 3 N M 0 (.slice ba lb cb)) 83))) := Lib.hid (DoEnd.refl HB1.out HF.out (by rw [doA_none (by decide) (pr_get_none hg)]))
    clear hg
    go_wp2
    go_ret
    exact ⟨_, rfl, HE.out⟩
  · have HG := Lib.hid hg
    clear hg hj
    go_wp2_with fail
    refine HWo.out.mono ?_
    rintro e w2 ⟨u, rfl, hm⟩
    obtain ⟨ua, uc, hu⟩ := fls_row_slice hm.row
    have HE : Hid (DoEnd w (.slice va L vc) G ⟨2, n, [], 0, []⟩ u w2) := Lib.hid (DoEnd.made HB1.out HF.out hm (fun p hp => .inl (mem_del.1 hp).1) (by rw [doA_remove (pr_get_some HG.out), pr_del]))
    rw [hu] at HE ⊢
    clear hm hu
    go_wp2
    go_ret
    exact ⟨_, rfl, HE.out⟩

theorem Made.below {w W W' : World} {v : Value} {G : Gf} (h : Made w v G W) (hb : Below W.heap.size W W') : Made w v G W' :=
  ⟨ownRow_same h.row fun k hk => hb.block k (World.ownsRow.lt h.row k hk).2, h.new, h.bel.trans (hb.mono h.bel.size)⟩

/-- A list that a call made, as a fact. -/
def madeF (w : World) (G : Gf) : Fact := .sat (fun u W => Made w u G W) fun _ _ _ h hb => h.below hb

theorem load_one {t : TypeId} (hagg : ∀ W, (isAgg t).run Try.prog W = .ok false W) (W : World) (p : Addr) (v : Value) (h : W.cell? p = some v) : (Instr.loadAt t (.pointer (some p))).run Try.prog W = .ok v W := by
  simp [Instr.loadAt, Instr.sureAddr, loadVar, Sem.run_bind, hagg, h]

theorem ask_index {P : Program} {ops : Array Oper} {tab : List (List Nat)} {fin : List Tmp} {K : World → Prop} {f : Tmp → Fact} {i : Nat} {o : Oper} (hg : guardOk ops f o) (ty : TypeId) (s t : Operand) (v x c : Value) (ho : o.op = .indexAddr ty s t) (hs : opFact f s = .is v) (ht : opFact f t = .is x)
    (hd : ∀ k, o.dst = some k → f k = .is c) (hr : ∀ W, (Instr.indexAt ty v x).run P W = .ok c W) : Asked P ops tab fin K f i o := by
  refine ask_val hg c hd fun y W _ hk => ?_
  have e1 := evalBy_opVal hk s (by rw [ho]; simp [Op.operands]) hs
  have e2 := evalBy_opVal hk t (by rw [ho]; simp [Op.operands]) ht
  simp only [execOp, ho, e1, e2, Sem.run_bind, hr W, Result.andThen_ok, Sem.run_pure]

set_option maxHeartbeats 1000000 in
set_option maxRecDepth 20000 in
theorem dor_rename {w : World} {ba : Option Addr} {lb cb : Nat} {v : Value} {G : Gf} {n q : Nm} {N M : ByteArray} (h : Fls w v G) (hl : G.length ≤ 50000) (hN : nm n = .string N) (hM : nm q = .string M) :
    Calls Try.prog 51 #[v, .agg (opR 4 N M 0 (.slice ba lb cb))] w fun e w' => ∃ u, e = .returned u ∧ DoEnd w v G ⟨3, n, q, 0, []⟩ u w' := by
  obtain ⟨w1, hw1⟩ : ∃ w1, w1 = w.alloc (.cells (opR 4 N M 0 (.slice ba lb cb)) 83) := ⟨_, rfl⟩
  have hb1 : Below w.heap.size w w1 := by rw [hw1]; exact (Below.refl _ _).alloc (Nat.le_refl _) _
  have hF := h.below hb1
  have hbox : Blk w1 w.heap.size 83 (opR 4 N M 0 (.slice ba lb cb)) := by rw [hw1]; exact Blk.new w _ _
  have HBox := Lib.hid hbox
  have HB1 := Lib.hid hb1
  have HF := Lib.hid hF
  have HFind := Lib.hid (find_any (n := n) hF (by omega))
  rw [hN] at HFind
  have HN := Lib.hid hN
  have HM := Lib.hid hM
  have HGl := Lib.hid hl
  obtain ⟨va, vc, hv⟩ := h.slice
  subst hv
  obtain ⟨L, hL⟩ : ∃ L, L = G.length := ⟨_, rfl⟩
  rw [← hL] at HFind HF ⊢
  have HL := Lib.hid hL
  have HW1 := Lib.hid hw1
  rw [hw1] at HFind
  clear h hl hb1 hF hN hM hL hbox
  go_enter Try.func51, Try.ntmps51
  go_wp2_with fail
  refine HFind.out.mono ?_
  rintro e w' ⟨⟨i, rfl, hat⟩, rfl⟩
  rcases hat with ⟨rfl, hg⟩ | ⟨j, x, rfl, hj, hg⟩
  · have HE : Hid (DoEnd w (.slice va L vc) G ⟨3, n, q, 0, []⟩ (.slice va L vc) (w.alloc (.cells (opR 4 N M 0 (.slice ba lb cb)) 83))) := Lib.hid (by rw [← HW1.out]; exact DoEnd.refl HB1.out HF.out (by rw [doA_none (by decide) (pr_get_none hg)]))
    clear hg hw1
    go_wp2
    go_ret
    exact ⟨_, rfl, HE.out⟩
  · have hlt : j < L := by have := (List.getElem?_eq_some_iff.1 hj).1; have := HL.out; omega
    have hf := HF.out
    rw [HL.out] at hf
    obtain ⟨g, cap, e, hgl, c0, c1⟩ := hf.cells j (n, x) hj
    simp at e
    obtain ⟨rfl, rfl⟩ := e
    obtain ⟨xa, xc, hx⟩ := slice_of_row (hf.text (n, x) (List.mem_of_getElem? hj))
    simp only at hx c1
    rw [hx] at c1
    obtain ⟨xn, hxn⟩ : ∃ xn, xn = x.2.length := ⟨_, rfl⟩
    rw [← hxn] at c1 hx
    obtain ⟨b0, hb0⟩ : ∃ b0, b0 = w.heap.size := ⟨_, rfl⟩
    have HBox1 : Hid (Blk w1 b0 83 (opR 4 N M 0 (.slice ba lb cb))) := Lib.hid (by rw [hb0]; exact HBox.out)
    have hbl := HBox1.out.lt
    have HE1 : Hid (∀ u W, Made w1 u (putA q x (delA n G)) W → DoEnd w (.slice (some ⟨g, 0, none⟩) L vc) G ⟨3, n, q, 0, []⟩ u W) := Lib.hid fun u W hm => DoEnd.made HB1.out HF.out hm (fun p hp => by
      rcases mem_put.1 hp with rfl | ⟨hp, _⟩
      · have hmem := getA_mem hg
        exact .inr ⟨(hf.text (n, x) hmem : Row w1 0 x.1 x.2), fun k hk => .inl ⟨(n, x), hmem, hk⟩⟩
      · exact .inl (mem_del.1 hp).1) (by
      rw [doA_rename (pr_get_some hg), ← pr_del]
      exact pr_put _ _ _ _)
    have HX := Lib.hid hx
    have HC1 : Hid (w1.cell? ⟨g, j * 2 + 1, none⟩ = some (.slice xa xn xc)) := Lib.hid c1
    have HGlt := Lib.hid hgl
    have HBl := Lib.hid hbl
    have HLt := Lib.hid hlt
    have HW1b : Hid (w.alloc (.cells (opR 4 N M 0 (.slice ba lb cb)) 83) = w1) := Lib.hid hw1.symm
    clear hg hj hf c0 c1 hx hxn hgl hbl hw1 hlt
    go_wp2
    rw [HW1b.out, ← hb0]
    clear hb0
    have hG : ∀ W W' : World, Below w1.heap.size w1 W → Below W.heap.size W W' → Below w1.heap.size w1 W' := fun W W' h h' => h.trans (h'.mono h.size)
    have hcell : ∀ (W : World), Below w1.heap.size w1 W → ∀ (b i : Nat) (u : Value), b < w1.heap.size → w1.cell? ⟨b, i, none⟩ = some u → W.cell? ⟨b, i, none⟩ = some u := fun W hW b i u hb hu => by rw [hW.cell (p := ⟨b, i, none⟩) hb]; exact hu
    have hbx : ∀ i, w1.cell? ⟨b0, i, none⟩ = (opR 4 N M 0 (.slice ba lb cb))[i]? := fun i => Blk.cell HBox1.out i
    refine region_tail_to 13 _ [(117, .is (.slice (some ⟨g, 0, none⟩) L vc)), (118, .is (.pointer (some ⟨b0, 1, none⟩))), (119, .is (.string N)), (120, madeF w1 (delA n G)), (121, .is (.pointer (some ⟨b0, 2, none⟩))), (122, .is (.string M)), (123, .is (.slice (some ⟨g, 0, none⟩) L vc)), (124, .is (.int .i64 (j : Int))), (125, .is (.pointer (some ⟨g, j * 2, none⟩))), (126, .is (.pointer (some ⟨g, j * 2 + 1, none⟩))), (127, .is (.slice xa xn xc)), (128, .is (.agg #[.string M, .slice xa xn xc])), (129, madeF w1 (putA q x (delA n G)))] [129]
      (fun W => Below w1.heap.size w1 W) (by kernel_rfl) (by kernel_rfl) (by kernel_rfl) (by kernel_rfl) (by kernel_rfl) rfl rfl rfl (by intro k hk h; cases h; cases hk) (by kernel_rfl) (Below.refl _ _).drew ?_ ?_
    · refine ⟨?c0, ?c1, ?c2, ?c3, ?c4, ?c5, ?c6, ?c7, ?c8, ?c9, ?c10, ?c11, ?c12, trivial⟩
      case c0 => exact ask_copy (guard_none rfl) (.tmp 0) (.inl rfl) (by intro k hk; cases hk; rfl)
      case c1 => exact ask_field (guard_none rfl) _ (.tmp 3) 1 (.pointer (some ⟨b0, 0, none⟩)) (.pointer (some ⟨b0, 1, none⟩)) rfl rfl (by intro k hk; cases hk; rfl) (fun W => by kernel_rfl)
      case c2 => exact ask_load (guard_none rfl) _ (.tmp 118) (.pointer (some ⟨b0, 1, none⟩)) (.string N) rfl rfl (by intro k hk; cases hk; rfl) (fun W hW => load_one (fun W => by kernel_rfl) W _ _ (hcell W hW _ _ _ HBl.out (by rw [hbx]; rfl)))
      case c3 => exact ask_call hG (guard_none rfl) _ _ _ #[.slice (some ⟨g, 0, none⟩) L vc, .string N] (madeF w1 (delA n G)) rfl (by kernel_rfl) rfl rfl (by intro k hk; cases hk; rfl) (fun W hW => by
        have h := without_any (n := n) (HF.out.below hW) (Nat.le_trans HGl.out (by decide))
        rw [HN.out] at h
        exact h.mono fun e w' h => by
          obtain ⟨u, h1, h2⟩ := h
          exact ⟨u, h1, ⟨h2.row, fun k hk => Nat.le_trans hW.size (h2.new k hk), hG _ _ hW h2.bel⟩, h2.bel⟩)
      case c4 => exact ask_field (guard_none rfl) _ (.tmp 3) 2 (.pointer (some ⟨b0, 0, none⟩)) (.pointer (some ⟨b0, 2, none⟩)) rfl rfl (by intro k hk; cases hk; rfl) (fun W => by kernel_rfl)
      case c5 => exact ask_load (guard_none rfl) _ (.tmp 121) (.pointer (some ⟨b0, 2, none⟩)) (.string M) rfl rfl (by intro k hk; cases hk; rfl) (fun W hW => load_one (fun W => by kernel_rfl) W _ _ (hcell W hW _ _ _ HBl.out (by rw [hbx]; rfl)))
      case c6 => exact ask_copy (guard_none rfl) (.tmp 0) (.inl rfl) (by intro k hk; cases hk; rfl)
      case c7 => exact ask_copy (guard_none rfl) (.tmp 5) (.inl rfl) (by intro k hk; cases hk; rfl)
      case c8 => exact ask_index (guard_none rfl) _ (.tmp 123) (.tmp 124) (.slice (some ⟨g, 0, none⟩) L vc) (.int .i64 (j : Int)) (.pointer (some ⟨g, j * 2, none⟩)) rfl rfl rfl (by intro k hk; cases hk; rfl) (fun W => files_index W g L vc j HLt.out)
      case c9 => exact ask_field (guard_none rfl) _ (.tmp 125) 1 (.pointer (some ⟨g, j * 2, none⟩)) (.pointer (some ⟨g, j * 2 + 1, none⟩)) rfl rfl (by intro k hk; cases hk; rfl) (fun W => by kernel_rfl)
      case c10 => exact ask_load (guard_none rfl) _ (.tmp 126) (.pointer (some ⟨g, j * 2 + 1, none⟩)) (.slice xa xn xc) rfl rfl (by intro k hk; cases hk; rfl) (fun W hW => load_one (fun W => by kernel_rfl) W _ _ (hcell W hW _ _ _ HGlt.out HC1.out))
      case c11 => exact ask_exec (guard_none rfl) (.agg #[.string M, .slice xa xn xc]) rfl rfl (by intro k hk; cases hk; rfl) (fun W hW => by kernel_rfl)
      case c12 => exact ask_call_by hG (guard_none rfl) _ _ _ (madeF w1 (putA q x (delA n G))) rfl (by kernel_rfl) (by intro k hk; cases hk; rfl) (fun y W hW hk => by
        have e128 : y 128 = .agg #[.string M, .slice xa xn xc] := hk 128 rfl
        have h120 : Made w1 (y 120) (delA n G) W := hk 120 rfl
        have hfl := made_fls HF.out h120 fun p hp => .inl (mem_del.1 hp).1
        have h := with_any (n := q) (xa := xa) (xn := xn) (xc := xc) (t := x.2) hfl (Nat.le_trans length_del HGl.out)
        rw [HM.out, ← HX.out] at h
        show Calls _ _ #[y 120, y 128] W _
        rw [e128, ← HX.out]
        exact h.mono fun e w' h => by
          obtain ⟨u, h1, h2⟩ := h
          exact ⟨u, h1, ⟨h2.row, fun k hk => Nat.le_trans hW.size (h2.new k hk), hG _ _ hW h2.bel⟩, h2.bel⟩)
    · intro a' W hW hd' hs' hf'
      have t129 : Made w1 (a'.tmps.getD 129 undef) (putA q x (delA n G)) W := hf' 129 rfl
      obtain ⟨us, hus, ha'⟩ := act_open 130 a' hs' hd'
      rw [← hus] at t129
      have HE := Lib.hid (HE1.out _ _ t129)
      obtain ⟨ra, rc, hr⟩ := fls_row_slice t129.row
      have el : ((List.range 130).map us).toArray = #[us 0, us 1, us 2, us 3, us 4, us 5, us 6, us 7, us 8, us 9, us 10, us 11, us 12, us 13, us 14, us 15, us 16, us 17, us 18, us 19, us 20, us 21, us 22, us 23, us 24, us 25, us 26, us 27, us 28, us 29, us 30, us 31, us 32, us 33, us 34, us 35, us 36, us 37, us 38, us 39, us 40, us 41, us 42, us 43, us 44, us 45, us 46, us 47, us 48, us 49, us 50, us 51, us 52, us 53, us 54, us 55, us 56, us 57, us 58, us 59, us 60, us 61, us 62, us 63, us 64, us 65, us 66, us 67, us 68, us 69, us 70, us 71, us 72, us 73, us 74, us 75, us 76, us 77, us 78, us 79, us 80, us 81, us 82, us 83, us 84, us 85, us 86, us 87, us 88, us 89, us 90, us 91, us 92, us 93, us 94, us 95, us 96, us 97, us 98, us 99, us 100, us 101, us 102, us 103, us 104, us 105, us 106, us 107, us 108, us 109, us 110, us 111, us 112, us 113, us 114, us 115, us 116, us 117, us 118, us 119, us 120, us 121, us 122, us 123, us 124, us 125, us 126, us 127, us 128, us 129] := rfl
      rw [el] at ha'
      subst ha'
      rw [hr] at HE ⊢
      clear hus t129 el hf' hs' hd' hW hG hcell hbx hr
      go_wp2
      go_ret
      exact ⟨_, rfl, HE.out⟩
end Go.Proofs.Ytabddeoeihlnnaa
