/- Joined: MsgWriter, MsgWriterHand, MsgReader, MsgReaderHand. -/
import Derived.Test.YtidapdooiibfnaaHO
import Derived.Test.YtidapdooiibfnaaHG
import Derived.Test.YtidapdooiibfnaaHT
import Derived.Test.YtidapdooiibfnaaHD
import Derived.Test.YtidapdooiibfnaaHI
/- Layer 18: the hand that lays down, in memory. -/
namespace Go.Proofs.Ytidapdooiibfnaa
set_option maxRecDepth 20000
open Go.RowKit Go.Maps BinMath CmdMath Reg
open MsgMath (Mg Hand wrH)

/-- append(v, x...): the row that was there is told, too. -/
theorem append_keep {w : World} {B : Nat} {v x : Value} {l l' : List UInt8} (hB : B ≤ w.heap.size) (hown : Row w B v l) (hx : Bys w x l') (hlen : l.length + l'.length ≤ 140737488355328) :
    ∃ v' w', (Builtin.append_ #[25, 25] 25 #[v, x]).run Try.prog w = .ok v' w' ∧ Row w' B v' (l ++ l') ∧ Row w' B v l ∧ OnlyS (fun k => v.ownBlock = some k) w w' ∧ (∀ k, v'.ownBlock = some k → v.ownBlock = some k ∨ w.heap.size ≤ k) := by
  obtain ⟨i0, hi, hz0, hz1, hz2⟩ := info_parts info_byte
  rcases hx with ⟨rfl, rfl⟩ | ⟨ad, cap', rfl, hc⟩
  · exact ⟨v, w, run_append_owned_none (P := Try.prog) (w := w) B _ _ _ i0 1 Try.underlying25 hi v l.length (l.map bv) hown, by simpa using hown, hown, OnlyS.refl _ _, fun k hk => .inl hk⟩
  · have hown0 : w.ownsRow B 5 1 v l.length (l.map bv) := hown
    obtain ⟨n, hn⟩ : ∃ n, n = l.length := ⟨_, rfl⟩
    obtain ⟨m, hm⟩ : ∃ m, m = l'.length := ⟨_, rfl⟩
    obtain ⟨xs, hxs⟩ : ∃ xs, xs = l.map bv := ⟨_, rfl⟩
    obtain ⟨news, hnw⟩ : ∃ news, news = l'.map bv := ⟨_, rfl⟩
    have hcl : news.length = m * i0.size := by rw [hnw, hz1, List.length_map, hm, Nat.mul_one]
    have hnews : ∀ j u, news[j]? = some u → w.cell? (ad.add j) = some u := by rw [hnw]; exact cells_bys hc
    have h1 : ∀ u ∈ news, u.oneCell' = true := by rw [hnw]; exact one_bv l'
    have hb1 : i0.bytes = 1 := hz2
    rw [← hn, ← hxs] at hown0
    have key : ∃ v' w', (Builtin.append_ #[25, 25] 25 #[v, .slice (some ad) m cap']).run Try.prog w = .ok v' w' ∧ w'.ownsRow B 5 1 v' (n + m) (xs ++ news) ∧ w'.ownsRow B 5 1 v n xs ∧ OnlyS (fun k => v.ownBlock = some k) w w' ∧ (∀ k, v'.ownBlock = some k → v.ownBlock = some k ∨ w.heap.size ≤ k) := by
      have hnm : n + m ≤ 140737488355328 := by omega
      have hlen2 : (xs ++ news).length = (n + m) * 1 := by rw [List.length_append, hown0.1, hcl, hz1]; omega
      have hnew : ∀ (o : Obj), OnlyS (fun k => v.ownBlock = some k) w (w.drew.alloc o) := fun o => ⟨rfl, rfl, rfl, by simp, fun k hk _ => Below.heap_alloc w.drew _ k hk⟩
      have grown : ∀ (old : Nat), old < n + m → (w.drew.alloc (.cells (xs.toArray ++ news.toArray ++ Builtin.zeroCells (Value.int .u8 0).cells (grownCap w (n + m) old 5 - (n + m))) 5)).ownsRow B 5 1
          (.slice (some ⟨w.heap.size, 0, none⟩) (n + m) (grownCap w (n + m) old 5)) (n + m) (xs ++ news) := by
        intro old ho
        have hge := grownCap_ge w (n + m) old 5
        have hcm : grownCap w (n + m) old 5 ≤ maxLen := grownCap_le_maxLen w (n + m) old 5 (by unfold maxLen; omega)
        refine ⟨hlen2, .inr ⟨w.heap.size, _, _, rfl, hB, heap_alloc_new w.drew _, hge, hcm, ?_, ?_⟩⟩
        · have hx1 : xs.length = n := by rw [hown0.1]; omega
          have hx2 : news.length = m := by rw [hcl, hz1]; omega
          simp only [Array.size_append, List.size_toArray, size_zeroCells, hx1, hx2]
          have : (Value.int IntKind.u8 0).cells.size = 1 := rfl
          rw [this]
          omega
        · simp only [Array.toList_append, List.append_assoc]
          rw [← List.append_assoc, ← hlen2]
          exact List.take_left
      rcases hown0.2 with ⟨rfl, hn0⟩ | ⟨g, cap, cur, rfl, hbg, hg, hnc, hcm, hcs, htake⟩
      · have hx0 : xs = [] := List.eq_nil_of_length_eq_zero (by rw [hown0.1, hn0])
        rw [hx0, hn0] at hown0 grown ⊢
        by_cases h0 : m = 0
        · have hn2 : news = [] := List.eq_nil_of_length_eq_zero (by rw [hcl, h0, Nat.zero_mul])
          rw [hn2, h0]
          refine ⟨.slice none 0 0, w, ?_, World.ownsRow_nil w B _ _, World.ownsRow_nil w B _ _, OnlyS.refl _ _, fun k hk => .inl hk⟩
          simp [Builtin.append_, run_underlying (P := Try.prog) Try.underlying25, sizeOf, typeInfo, hi, Builtin.lenOf, Builtin.firstCells, loadCells, loadCellsFrom]
        · have hr := run_append_nil (P := Try.prog) w 25 25 5 i0 (.int .u8 0) Try.underlying25 hi hz0 ad m cap' news hcl hnews (by omega) (by omega) (by rw [hb1]; omega)
          have hgr := grown 0 (by omega)
          simp only [Nat.zero_add, List.nil_append, Array.empty_append] at hgr ⊢
          exact ⟨_, _, hr, hgr, World.ownsRow_nil _ _ _ _, hnew _, fun k hk => .inr (by simp [Value.ownBlock] at hk; omega)⟩
      · by_cases hroom : n + m ≤ cap
        · have hfit : n * i0.size + news.length ≤ cur.size := by rw [hcl, hcs, hz1]; omega
          have hr := run_append_room (P := Try.prog) w 25 25 5 i0 Try.underlying25 hi g n cap cur hg ad m cap' news hcl hnews h1 hroom hfit
          rw [hz1] at hr
          have hnl : news.length = m := by rw [hcl, hz1]; omega
          have hcz : cur.size = cap := by rw [hcs]; omega
          have hsz2 : (cur.toList.take (n * 1) ++ news ++ cur.toList.drop (n * 1 + news.length)).toArray.size = cap * 1 := by
            simp only [List.size_toArray, List.length_append, List.length_take, List.length_drop, Array.length_toList, hnl, hcz]
            omega
          refine ⟨_, _, hr, ⟨hlen2, .inr ⟨g, cap, _, rfl, hbg, setRow_heap w g cur _ _ _ hg, hroom, hcm, hsz2, ?_⟩⟩, ⟨hown0.1, .inr ⟨g, cap, _, rfl, hbg, setRow_heap w g cur _ _ _ hg, hnc, hcm, hsz2, ?_⟩⟩, ⟨rfl, rfl, rfl, by simp, fun k _ hk => setRow_other w g k _ fun e => hk (by simp [Value.ownBlock, e])⟩, fun k hk => .inl hk⟩
          · rw [htake, ← hlen2]
            exact List.take_left
          · rw [htake, List.append_assoc, ← hown0.1]
            exact List.take_left
        · have holds : ∀ j u, xs[j]? = some u → w.cell? ((⟨g, 0, none⟩ : Addr).add j) = some u := hown0.cells (g := g) rfl
          have hr := run_append_grow (P := Try.prog) w 25 25 5 i0 (.int .u8 0) Try.underlying25 hi hz0 ⟨g, 0, none⟩ n cap xs (by rw [hown0.1, hz1]) holds ad m cap' news hcl hnews (by omega) (by omega) (growslice_fits (by omega) (by rw [hb1]; omega))
          exact ⟨_, _, hr, grown cap (by omega), ownsRow_to hown0 fun k hk => Below.heap_alloc w.drew _ k (World.ownsRow.lt hown0 k hk).2, hnew _, fun k hk => .inr (by simp [Value.ownBlock] at hk; omega)⟩
    obtain ⟨v', w', hr, k1, k2, k3, k4⟩ := key
    rw [hm] at hr
    refine ⟨v', w', hr, ?_, ?_, k3, k4⟩
    · unfold Row
      rw [List.length_append, List.map_append, ← hn, ← hm, ← hxs, ← hnw]
      exact k1
    · unfold Row
      rw [← hn, ← hxs]
      exact k2

/-- The writer at L, with l laid down; its buffer lies from Bw on. -/
def WrI (L Bw : Nat) (w : World) (U : Nat → Prop) (l : List UInt8) : Prop :=
  ∃ v, Blk w L 44 #[v] ∧ Row w Bw v l ∧ (∀ k, U k ↔ k = L ∨ v.ownBlock = some k) ∧ L < Bw ∧ Bw ≤ w.heap.size

theorem WrI.keep {L Bw : Nat} {w w' : World} {U V : Nat → Prop} {l : List UInt8} (h : WrI L Bw w U l) (ho : OnlyS V w w') (hV : ∀ k, k < w.heap.size → V k → ¬ U k) : WrI L Bw w' U l := by
  obtain ⟨v, h1, h2, h3, h4, h5⟩ := h
  have hn : ∀ k, k < w.heap.size → U k → ¬ V k := fun k hk hu hv => hV k hk hv hu
  exact ⟨v, h1.onlyS ho (hn _ h1.lt ((h3 _).2 (.inl rfl))), row_to h2 (fun k hk => ho.block k (World.ownsRow.lt h2 k hk).2 (hn _ (World.ownsRow.lt h2 k hk).2 ((h3 k).2 (.inr hk)))), h3, h4, Nat.le_trans h5 ho.size⟩
theorem WrI.lt {L Bw : Nat} {w : World} {U : Nat → Prop} {l : List UInt8} (h : WrI L Bw w U l) (k : Nat) (hk : U k) : k < w.heap.size := by
  obtain ⟨v, h1, h2, h3, h4, h5⟩ := h
  rcases (h3 k).1 hk with rfl | hk
  · exact h1.lt
  · exact (World.ownsRow.lt h2 k hk).2

/-- In the midst of an append to the writer. -/
def WrG (L Bw : Nat) (w : World) (v : Value) (l : List UInt8) (W : World) : Prop := OnlyS (fun k => v.ownBlock = some k) w W ∧ Row W Bw v l ∧ Blk W L 44 #[v]
theorem WrG.below {L Bw : Nat} {w W W' : World} {v : Value} {l : List UInt8} (h : WrG L Bw w v l W) (hb : Below W.heap.size W W') : WrG L Bw w v l W' :=
  ⟨h.1.trans (OnlyS.of_below hb fun _ hk _ => hk), h.2.1.below hb, h.2.2.keep hb⟩
/-- What the append gives. -/
def wrNew (Bw : Nat) (w : World) (v : Value) (l : List UInt8) : Fact := .sat (fun x W => Row W Bw x l ∧ (∀ k, x.ownBlock = some k → v.ownBlock = some k ∨ w.heap.size ≤ k) ∧ w.heap.size ≤ W.heap.size) fun _ _ _ ⟨h1, h2, h3⟩ hb => ⟨h1.below hb, h2, Nat.le_trans h3 hb.size⟩

theorem ask_wrote {ops : Array Oper} {tab : List (List Nat)} {fin : List Tmp} {f : Tmp → Fact} {i : Nat} {o : Oper} {L Bw : Nat} {w : World} {v : Value} {l l' : List UInt8} (hg : guardOk ops f o) (hst : stillBut ops tab fin f i o = true) (s t : Operand) (B' : Nat) (hty : o.type = 25)
    (ho : o.op = .call { callee := .builtin .append, args := #[s, t], argTypes := #[25, 25] }) (hs : opFact f s = .is v) (ht : opFact f t = .row B' l') (hl : l.length + l'.length ≤ 140737488355328)
    (hLv : ¬ v.ownBlock = some L) (hBw : Bw ≤ w.heap.size) (hd : ∀ k, o.dst = some k → f k = wrNew Bw w v (l ++ l')) : Asked Try.prog ops tab fin (WrG L Bw w v l) f i o := by
  refine ask_write hg hst fun x W hW hk => ?_
  have e1 := evalBy_opVal hk s (by rw [ho]; simp [Op.operands, Call.operands]) hs
  have h2 := told_op hk t (by rw [ho]; simp [Op.operands, Call.operands])
  rw [ht] at h2
  have h2 : Row W B' (evalBy x t) l' := h2
  obtain ⟨v', w', hr, k1, k2, k3, k4⟩ := append_keep (Nat.le_trans hBw hW.1.size) hW.2.1 h2.bys hl
  refine gives_value (v := v') (w' := w') ?_ ⟨⟨hW.1.trans k3, k2, hW.2.2.onlyS k3 hLv⟩, fun k hk => ?_⟩
  · simp [execOp, ho, resolve, invoke, builtin, hty, e1, hr, Result.andThen]
  · rw [hd k hk]
    exact ⟨k1, fun k hk => (k4 k hk).imp id (Nat.le_trans hW.1.size), Nat.le_trans hW.1.size k3.size⟩

theorem WrG.next {L Bw : Nat} {w W W3 : World} {v v' : Value} {l l2 : List UInt8} {U : Nat → Prop} (hG : WrG L Bw w v l W) (hU : ∀ k, U k ↔ k = L ∨ v.ownBlock = some k) (hL : L < Bw) (hBw : Bw ≤ w.heap.size) (hr : Row W Bw v' l2) (hn : ∀ k, v'.ownBlock = some k → v.ownBlock = some k ∨ w.heap.size ≤ k)
    (hb : Blk W3 L 44 #[v']) (ho : OnlyS (fun k => k = L) W W3) : OnlyS U w W3 ∧ ∃ U', WrI L Bw W3 U' l2 ∧ ∀ k, U' k → U k ∨ w.heap.size ≤ k := by
  have hne : ∀ k, v'.ownBlock = some k → ¬ k = L := fun k hk e => by have := World.ownsRow.lt hr k hk; omega
  refine ⟨(hG.1.mono fun k _ hk => (hU k).2 (.inr hk)).then ho fun k _ e => (hU k).2 (.inl e), fun k => k = L ∨ v'.ownBlock = some k, ⟨v', hb, row_to hr fun k hk => ho.block k (World.ownsRow.lt hr k hk).2 (hne k hk), fun _ => Iff.rfl, hL, Nat.le_trans hBw (Nat.le_trans hG.1.size ho.size)⟩, fun k hk => ?_⟩
  rcases hk with rfl | hk
  · exact .inl ((hU k).2 (.inl rfl))
  · exact (hn k hk).imp (fun h => (hU k).2 (.inr h)) id

set_option maxHeartbeats 2000000 in
theorem writer_number {L Bw : Nat} {w : World} {U : Nat → Prop} {l : List UInt8} (n : Nat) (hI : WrI L Bw w U l) (hn : n < 18446744073709551616) (hl : l.length ≤ 1000000000000) :
    Calls Try.prog 80 #[.pointer (some ⟨L, 0, none⟩), .int .u64 (n : Int)] w (HEnd 20000 List.length (WrI L Bw) U l w (wrH.number n l) isNum) := by
  have hnb := nb_le n hn
  have hn9 : (numL n).length ≤ 9 := by rw [numL_length]; omega
  obtain ⟨v, hb, hrow, hU, hL, hBw⟩ := hI
  have HU := Lib.hid hU
  have HL := Lib.hid hL
  have HBw := Lib.hid hBw
  have HLv := Lib.hid (show ¬ v.ownBlock = some L from fun e => by have := World.ownsRow.lt hrow L e; omega)
  have HLen := Lib.hid (show l.length + (numL n).length ≤ 140737488355328 by omega)
  have HGW := Lib.hid (show WrG L Bw w v l w from ⟨OnlyS.refl _ _, hrow, hb⟩)
  have HN9 := Lib.hid hn9
  have HNum := Lib.hid (fun W => num_any n W hn)
  have HX := Lib.hid hn
  clear hnb hn9 hb hrow hU hL hBw hl hn
  go_enter Try.func80, Try.ntmps80
  go_upto_region 1 with fail
  refine region_tail_by 10 _ [(5, .is (.pointer (some ⟨L, 0, none⟩))), (6, .is (.pointer (some ⟨L, 0, none⟩))), (7, .is (.pointer (some ⟨L, 0, none⟩))), (8, .is (.pointer (some ⟨L, 0, none⟩))), (9, .is v), (10, .is (.int .u64 (n : Int))), (11, .row w.heap.size (numL n)), (12, wrNew Bw w v (l ++ (numL n))), (13, .is (.pointer (some ⟨L, 0, none⟩))), (14, .is (.pointer (some ⟨L, 0, none⟩)))] [0, 1, 12, 14] (WrG L Bw w v l) (by kernel_rfl) (by kernel_rfl) (by kernel_rfl) (by kernel_rfl) (by kernel_rfl) rfl rfl rfl rfl (by kernel_rfl) (HGW.out.below (Below.refl _ _).drew) ?_ ?_
  · refine ⟨?c0, ?c1, ?c2, ?c3, ?c4, ?c5, ?c6, ?c7, ?c8, ?c9, trivial⟩
    case c0 => exact ask_copy (guard_none rfl) (.tmp 0) (.inl rfl) (by intro k hk; cases hk; rfl)
    case c1 => exact ask_copy (guard_none rfl) (.tmp 0) (.inl rfl) (by intro k hk; cases hk; rfl)
    case c2 => exact ask_exec (guard_none rfl) (.pointer (some ⟨L, 0, none⟩)) rfl rfl (by intro k hk; cases hk; rfl) (fun W hW => by kernel_rfl)
    case c3 => exact ask_field (guard_none rfl) _ (.tmp 7) 0 (.pointer (some ⟨L, 0, none⟩)) (.pointer (some ⟨L, 0, none⟩)) rfl rfl (by intro k hk; cases hk; rfl) (fun W => by kernel_rfl)
    case c4 => exact ask_load (guard_none rfl) _ (.tmp 8) (.pointer (some ⟨L, 0, none⟩)) v rfl rfl (by intro k hk; cases hk; rfl) (fun W hW => load_bys W _ _ (by rw [hW.2.2.cell]; rfl))
    case c5 => exact ask_copy (guard_none rfl) (.tmp 1) (.inl rfl) (by intro k hk; cases hk; rfl)
    case c6 => exact ask_call (fun _ _ h h2 => WrG.below h h2) (guard_none rfl) _ _ _ #[.int .u64 (n : Int)] (.row w.heap.size (numL n)) rfl (by kernel_rfl) rfl rfl (by intro k hk; cases hk; rfl) (fun W hW => (HNum.out W).mono fun e W' ⟨z, h1, h2, h3⟩ => ⟨z, h1, row_low h2 hW.1.size, h3⟩)
    case c7 => exact ask_wrote (guard_none rfl) (by kernel_rfl) (.tmp 9) (.tmp 11) w.heap.size (by kernel_rfl) rfl rfl rfl HLen.out HLv.out HBw.out (by intro k hk; cases hk; rfl)
    case c8 => exact ask_exec (guard_none rfl) (.pointer (some ⟨L, 0, none⟩)) rfl rfl (by intro k hk; cases hk; rfl) (fun W hW => by kernel_rfl)
    case c9 => exact ask_field (guard_none rfl) _ (.tmp 13) 0 (.pointer (some ⟨L, 0, none⟩)) (.pointer (some ⟨L, 0, none⟩)) rfl rfl (by intro k hk; cases hk; rfl) (fun W => by kernel_rfl)
  · intro a' W hW hd' hs' hf'
    have t0 : a'.tmps.getD 0 undef = .pointer (some ⟨L, 0, none⟩) := hf' 0 rfl
    have t1 : a'.tmps.getD 1 undef = .int .u64 (n : Int) := hf' 1 rfl
    obtain ⟨hr12, hn12, -⟩ : Row W Bw (a'.tmps.getD 12 undef) (l ++ (numL n)) ∧ (∀ k, (a'.tmps.getD 12 undef).ownBlock = some k → v.ownBlock = some k ∨ w.heap.size ≤ k) ∧ w.heap.size ≤ W.heap.size := hf' 12 rfl
    have t14 : a'.tmps.getD 14 undef = .pointer (some ⟨L, 0, none⟩) := hf' 14 rfl
    obtain ⟨us, hus, ha'⟩ := act_open 16 a' hs' hd'
    rw [← hus] at hr12 hn12 t0 t1 t14
    have el : ((List.range 16).map us).toArray = #[us 0, us 1, us 2, us 3, us 4, us 5, us 6, us 7, us 8, us 9, us 10, us 11, us 12, us 13, us 14, us 15] := rfl
    rw [el] at ha'
    subst ha'
    rw [t0, t1, t14]
    obtain ⟨v', hv'⟩ : ∃ v', v' = us 12 := ⟨_, rfl⟩
    rw [← hv'] at hr12 hn12 ⊢
    obtain ⟨va, vc, hvs⟩ := hr12.bys.shape
    obtain ⟨vn, hvn⟩ : ∃ vn, vn = (l ++ (numL n)).length := ⟨_, rfl⟩
    rw [← hvn] at hvs
    subst hvs
    have HR := Lib.hid hr12
    have HN := Lib.hid hn12
    have HG2 := Lib.hid hW
    clear hr12 hn12 hW hd' hs' hf' hus el hv' hvn t0 t1 t14
    go_wp2_with (refine wpList_store_fld rfl 25 (.tmp 14) (.tmp 12) rfl L 0 (.slice va vn vc) rfl rfl 44 #[v] #[.slice va vn vc] HG2.out.2.2 (by simp) rfl (by kernel_rfl) rfl ?_; intro w3 hb ho; (have HZ := Lib.hid (HG2.out.next HU.out HL.out HBw.out HR.out HN.out hb ho)); clear hb ho)
    go_ret
    obtain ⟨ho, U', hI', hs⟩ := HZ.out
    exact HEnd.good (D := 20000) (l := l) (val := isNum) (show wrH.number n l = .ok (n, l ++ numL n) from rfl) ho ⟨rfl, HX.out⟩ hI' hs (by have := HN9.out; rw [List.length_append]; omega)

/-- How the laying of a text ends. -/
def WrText (L Bw : Nat) (U : Nat → Prop) (l : List UInt8) (w : World) (most : Nat) (b : List UInt8) (x : Value) (e : Ending) (w' : World) : Prop :=
  (b.length ≤ most ∧ e = .returned x ∧ OnlyS U w w' ∧ ∃ U', WrI L Bw w' U' (l ++ rawL b) ∧ ∀ k, U' k → U k ∨ w.heap.size ≤ k) ∨ (most < b.length ∧ e = .panicked (gaveUp 4) ∧ w' = w)

set_option maxHeartbeats 2000000 in
theorem writer_text {L Bw : Nat} {w : World} {U : Nat → Prop} {l : List UInt8} (x : Value) (b : List UInt8) (most : Nat) (hI : WrI L Bw w U l) (hx : Stay w U 0 (fun W => Bys W x b)) (hb8 : b.length ≤ 140737488351232) (hm : most ≤ 16384) (hl : l.length ≤ 1000000000000) :
    Calls Try.prog 82 #[.pointer (some ⟨L, 0, none⟩), x, .int .i64 (most : Int)] w (WrText L Bw U l w most b x) := by
  obtain ⟨xa, xc, rfl⟩ := hx.now.shape
  obtain ⟨xn, hxn⟩ : ∃ xn, xn = b.length := ⟨_, rfl⟩
  rw [← hxn] at hx ⊢
  obtain ⟨v, hb, hrow, hU, hL, hBw⟩ := hI
  have HU := Lib.hid hU
  have HL := Lib.hid hL
  have HBw := Lib.hid hBw
  have HLv := Lib.hid (show ¬ v.ownBlock = some L from fun e => by have := World.ownsRow.lt hrow L e; omega)
  have HGW := Lib.hid (show WrG L Bw w v l w from ⟨OnlyS.refl _ _, hrow, hb⟩)
  have HXn := Lib.hid hxn
  by_cases hle : xn ≤ most
  · have hnb := nb_le xn (by omega)
    have HLen := Lib.hid (show l.length + (rawL b).length ≤ 140737488355328 by rw [rawL, List.length_append, numL_length, ← hxn]; omega)
    have HRaw := Lib.hid (fun W (hW : WrG L Bw w v l W) => raw_any (.slice xa xn xc) b W (hx W fun k _ hk hn => hW.1.block k hk fun e => hn ((hU k).2 (.inr e))) hb8)
    have HLe := Lib.hid hle
    clear hnb hb hrow hU hL hBw hl hx hb8 hxn hm
    go_enter Try.func82, Try.ntmps82
    go_wp2_with fail
    refine (mask_yes 4 _).mono ?_
    rintro e w1 ⟨rfl, hw1⟩
    rw [hw1]
    clear hw1 w1
    go_upto_region 2 with fail
    refine region_tail_by 10 _ [(12, .is (.pointer (some ⟨L, 0, none⟩))), (13, .is (.pointer (some ⟨L, 0, none⟩))), (14, .is (.pointer (some ⟨L, 0, none⟩))), (15, .is (.pointer (some ⟨L, 0, none⟩))), (16, .is v), (17, .is (.slice xa xn xc)), (18, .row w.heap.size (rawL b)), (19, wrNew Bw w v (l ++ (rawL b))), (20, .is (.pointer (some ⟨L, 0, none⟩))), (21, .is (.pointer (some ⟨L, 0, none⟩)))] [0, 1, 19, 21] (WrG L Bw w v l) (by kernel_rfl) (by kernel_rfl) (by kernel_rfl) (by kernel_rfl) (by kernel_rfl) rfl rfl rfl rfl (by kernel_rfl) (HGW.out.below (Below.refl _ _).drew) ?_ ?_
    · refine ⟨?c0, ?c1, ?c2, ?c3, ?c4, ?c5, ?c6, ?c7, ?c8, ?c9, trivial⟩
      case c0 => exact ask_copy (guard_none rfl) (.tmp 0) (.inl rfl) (by intro k hk; cases hk; rfl)
      case c1 => exact ask_copy (guard_none rfl) (.tmp 0) (.inl rfl) (by intro k hk; cases hk; rfl)
      case c2 => exact ask_exec (guard_none rfl) (.pointer (some ⟨L, 0, none⟩)) rfl rfl (by intro k hk; cases hk; rfl) (fun W hW => by kernel_rfl)
      case c3 => exact ask_field (guard_none rfl) _ (.tmp 14) 0 (.pointer (some ⟨L, 0, none⟩)) (.pointer (some ⟨L, 0, none⟩)) rfl rfl (by intro k hk; cases hk; rfl) (fun W => by kernel_rfl)
      case c4 => exact ask_load (guard_none rfl) _ (.tmp 15) (.pointer (some ⟨L, 0, none⟩)) v rfl rfl (by intro k hk; cases hk; rfl) (fun W hW => load_bys W _ _ (by rw [hW.2.2.cell]; rfl))
      case c5 => exact ask_copy (guard_none rfl) (.tmp 1) (.inl rfl) (by intro k hk; cases hk; rfl)
      case c6 => exact ask_call (fun _ _ h h2 => WrG.below h h2) (guard_none rfl) _ _ _ #[.slice xa xn xc] (.row w.heap.size (rawL b)) rfl (by kernel_rfl) rfl rfl (by intro k hk; cases hk; rfl) (fun W hW => (HRaw.out W hW).mono fun e W' ⟨z, h1, h2, h3⟩ => ⟨z, h1, row_low h2 hW.1.size, h3⟩)
      case c7 => exact ask_wrote (guard_none rfl) (by kernel_rfl) (.tmp 16) (.tmp 18) w.heap.size (by kernel_rfl) rfl rfl rfl HLen.out HLv.out HBw.out (by intro k hk; cases hk; rfl)
      case c8 => exact ask_exec (guard_none rfl) (.pointer (some ⟨L, 0, none⟩)) rfl rfl (by intro k hk; cases hk; rfl) (fun W hW => by kernel_rfl)
      case c9 => exact ask_field (guard_none rfl) _ (.tmp 20) 0 (.pointer (some ⟨L, 0, none⟩)) (.pointer (some ⟨L, 0, none⟩)) rfl rfl (by intro k hk; cases hk; rfl) (fun W => by kernel_rfl)
    · intro a' W hW hd' hs' hf'
      have t0 : a'.tmps.getD 0 undef = .pointer (some ⟨L, 0, none⟩) := hf' 0 rfl
      have t1 : a'.tmps.getD 1 undef = .slice xa xn xc := hf' 1 rfl
      obtain ⟨hr12, hn12, -⟩ : Row W Bw (a'.tmps.getD 19 undef) (l ++ (rawL b)) ∧ (∀ k, (a'.tmps.getD 19 undef).ownBlock = some k → v.ownBlock = some k ∨ w.heap.size ≤ k) ∧ w.heap.size ≤ W.heap.size := hf' 19 rfl
      have t21 : a'.tmps.getD 21 undef = .pointer (some ⟨L, 0, none⟩) := hf' 21 rfl
      obtain ⟨us, hus, ha'⟩ := act_open 23 a' hs' hd'
      rw [← hus] at hr12 hn12 t0 t1 t21
      have el : ((List.range 23).map us).toArray = #[us 0, us 1, us 2, us 3, us 4, us 5, us 6, us 7, us 8, us 9, us 10, us 11, us 12, us 13, us 14, us 15, us 16, us 17, us 18, us 19, us 20, us 21, us 22] := rfl
      rw [el] at ha'
      subst ha'
      rw [t0, t1, t21]
      obtain ⟨v', hv'⟩ : ∃ v', v' = us 19 := ⟨_, rfl⟩
      rw [← hv'] at hr12 hn12 ⊢
      obtain ⟨va, vc, hvs⟩ := hr12.bys.shape
      obtain ⟨vn, hvn⟩ : ∃ vn, vn = (l ++ (rawL b)).length := ⟨_, rfl⟩
      rw [← hvn] at hvs
      subst hvs
      have HR := Lib.hid hr12
      have HN := Lib.hid hn12
      have HG2 := Lib.hid hW
      clear hr12 hn12 hW hd' hs' hf' hus el hv' hvn t0 t1 t21
      go_wp2_with (refine wpList_store_fld rfl 25 (.tmp 21) (.tmp 19) rfl L 0 (.slice va vn vc) rfl rfl 44 #[v] #[.slice va vn vc] HG2.out.2.2 (by simp) rfl (by kernel_rfl) rfl ?_; intro w3 hb ho; (have HZ := Lib.hid (HG2.out.next HU.out HL.out HBw.out HR.out HN.out hb ho)); clear hb ho)
      go_ret
      obtain ⟨ho, U', hI', hs⟩ := HZ.out
      exact .inl ⟨by have := HXn.out; have := HLe.out; omega, rfl, ho, U', hI', hs⟩
  · clear hx hxn
    go_enter Try.func82, Try.ntmps82
    go_wp2_with fail
    refine (mask_no 4 (by decide) _).mono ?_
    rintro e w1 ⟨rfl, rfl⟩
    exact ⟨rfl, .inr ⟨by have := HXn.out; omega, rfl, rfl⟩⟩
end Go.Proofs.Ytidapdooiibfnaa

/- Layer 18: the writer is a hand. -/
namespace Go.Proofs.Ytidapdooiibfnaa
set_option maxRecDepth 20000
open Go.RowKit Go.Maps BinMath CmdMath Reg
open MsgMath (Mg Hand wrH)

set_option maxHeartbeats 2000000 in
theorem writer_octet {L Bw : Nat} {w : World} {U : Nat → Prop} {l : List UInt8} (c : Nat) (hI : WrI L Bw w U l) (hc : c < 256) (hl : l.length ≤ 1000000000000) :
    Calls Try.prog 81 #[.pointer (some ⟨L, 0, none⟩), .int .u8 (c : Int)] w (HEnd 20000 List.length (WrI L Bw) U l w (wrH.octet c l) isOct) := by
  obtain ⟨v, hb, hrow, hU, hL, hBw⟩ := hI
  have hcv : bv (UInt8.ofNat c) = .int .u8 (c : Int) := by rw [bv_of, Nat.mod_eq_of_lt hc]
  have hl1 := (Below.refl w.heap.size w).alloc (Nat.le_refl _) (.cells #[.int .u8 (c : Int)] 5)
  have hby := byte_bys w (UInt8.ofNat c)
  rw [hcv] at hby
  have A1 := Lib.hid (append_keep (by rw [World.size_alloc]; omega) (hrow.below hl1) hby (by simp only [List.length_cons, List.length_nil]; omega))
  have HB := Lib.hid (hb.alloc (.cells #[.int .u8 (c : Int)] 5))
  have HLv := Lib.hid (show ¬ v.ownBlock = some L from fun e => by have := World.ownsRow.lt hrow L e; omega)
  have HG : Hid (∀ w2 : World, Row w2 Bw v l → OnlyS (fun k => v.ownBlock = some k) (w.alloc (.cells #[.int .u8 (c : Int)] 5)) w2 → WrG L Bw w v l w2) := Lib.hid fun w2 k2 k3 => ⟨(OnlyS.of_below hl1 fun _ hk _ => hk).trans (k3.mono fun _ _ h => h), k2, HB.out.onlyS k3 HLv.out⟩
  have HU := Lib.hid hU
  have HL := Lib.hid hL
  have HBw := Lib.hid hBw
  have HX := Lib.hid hc
  have k0 : (w.alloc (.cells #[.int .u8 (c : Int)] 5)).cell? ⟨L, 0, none⟩ = some v := by rw [HB.out.cell]; rfl
  have kv : w.cell? ⟨L, 0, none⟩ = some v := by rw [hb.cell]; rfl
  have HV : Hid (∃ va vn vc, v = .slice va vn vc) := Lib.hid (by obtain ⟨va, vc, e⟩ := hrow.bys.shape; exact ⟨va, _, vc, e⟩)
  obtain ⟨va, vn, vc, rfl⟩ := HV.out
  clear HV hb hrow hU hL hBw hby hl1 hl hc hcv
  go_enter Try.func81, Try.ntmps81
  go_wp2_with (first
    | (at_builtin; refine wpList_append_by rfl _ _ 25 rfl _ _ rfl rfl _ A1.out ?_; rintro v2 w2 ⟨k1, k2, k3, k4⟩; (have HR := Lib.hid k1); (have HN := Lib.hid k4); (have HG2 := Lib.hid (HG.out w2 k2 k3)); clear k1 k2 k3 k4 k0 kv; (obtain ⟨xa, xc, e2⟩ := HR.out.bys.shape); (obtain ⟨xn, hxn⟩ : ∃ xn, xn = (l ++ [UInt8.ofNat c]).length := ⟨_, rfl⟩); rw [← hxn] at e2; subst e2; clear hxn)
    | (refine wpList_store_fld rfl 25 (.tmp 14) (.tmp 12) rfl L 0 (.slice xa xn xc) rfl rfl 44 #[.slice va vn vc] #[.slice xa xn xc] HG2.out.2.2 (by simp) rfl (by kernel_rfl) rfl ?_; intro w3 hb ho; (have HZ := Lib.hid (HG2.out.next HU.out HL.out HBw.out HR.out (fun k hk => (HN.out k hk).imp id (fun h => by rw [World.size_alloc] at h; omega)) hb ho)); clear hb ho))
  go_ret
  obtain ⟨ho, U', hI', hs⟩ := HZ.out
  exact HEnd.good (D := 20000) (l := l) (val := isOct) (show wrH.octet c l = .ok (c, l ++ [UInt8.ofNat c]) from rfl) ho ⟨rfl, HX.out⟩ hI' hs (by rw [List.length_append]; simp)

/-- A result that is a variable's struct. -/
theorem ret_ent1 {fn : Func} {p : Tmp} (h : fn.results = #[.cell p 42]) (tmps : Array Value) (W : World) (g : Nat) (cs : Array Value) (hs : cs.size = 6) (hp : tmps.getD p undef = .pointer (some ⟨g, 0, none⟩)) (hb : Blk W g 42 cs) :
    (results fn tmps).run Try.prog W = .ok (.agg cs) W := by
  have h6 : (Try.prog.info? 42).map (·.size) = some 6 := by kernel_rfl
  exact results_cell_row h _ _ g 42 cs (0, 0) _ hp hb Try.underlying42 rfl (by rw [hs]; exact h6)

set_option maxHeartbeats 2000000 in
theorem writer_entry {L Bw : Nat} {w : World} {U : Nat → Prop} {l : List UInt8} (X : Nat → Prop) (e : Ent) (x : Value) (hI : WrI L Bw w U l) (hx : isEnt X 0 e x w U) (hl : l.length ≤ 1000000000000) :
    Calls Try.prog 79 #[.pointer (some ⟨L, 0, none⟩), x] w (HEnd 20000 List.length (WrI L Bw) U l w (wrH.entry e l) (isEnt X 0)) := by
  obtain ⟨a, ca, b, cb, rfl, hst⟩ := hx
  obtain ⟨w0, hw0⟩ : ∃ w0, w0 = (w.alloc (.cells (entC e a ca b cb) 42)).alloc (.cells zeroC 42) := ⟨_, rfl⟩
  have ho0 : OnlyS (fun _ => False) w w0 := by rw [hw0]; exact ((OnlyS.refl _ _).alloc _).alloc _
  have hb0 : Below w.heap.size w w0 := ho0.below (fun _ _ e => e) (Nat.le_refl _)
  have hI0 := hI.keep ho0 (fun _ _ e => e.elim)
  have hs0 : w0.heap.size = w.heap.size + 2 := by rw [hw0]; simp
  have B1 : Blk w0 w.heap.size 42 (entC e a ca b cb) := by rw [hw0]; exact (Blk.new w _ _).alloc _
  have B2 : Blk w0 (w.heap.size + 1) 42 zeroC := by
    rw [hw0]
    have h := Blk.new (w.alloc (.cells (entC e a ca b cb) 42)) 42 zeroC
    rwa [World.size_alloc] at h
  have hsU : ∀ k, w.heap.size ≤ k → ¬ U k := fun k hk hu => by have := hI.lt k hu; omega
  have HW0 := Lib.hid hw0
  have HS := Lib.hid hst
  have HsU := Lib.hid hsU
  have HL1 := Lib.hid (Blk.loads (P := Try.prog) B1 42 _ Try.underlying42 rfl (by kernel_rfl))
  have HB1 := Lib.hid B1
  have HB2 := Lib.hid B2
  have HI0 := Lib.hid hI0
  have HO0 := Lib.hid ho0
  have HS0 := Lib.hid hs0
  have hhas := hst.now.below (Nat.le_refl _) hb0
  clear hw0 ho0 hb0 hI0 B1 B2 hst hI hsU hs0
  by_cases hf : formed e = true
  · have HP := Lib.hid (put_yes e a b ca cb w0 hhas hf)
    have HF := Lib.hid hf
    have hpl := MsgMath.putL_len e hhas.ok hf
    have HPl := Lib.hid hpl
    clear hhas hf
    go_enter Try.func79, Try.ntmps79
    go_upto_region 1 with fail
    have e0 := HW0.out
    simp only [zeroC] at e0
    rw [← e0]
    clear e0 HW0
    go_wp2_with (refine wpList_load_by rfl 42 (.tmp 3) rfl _ _ rfl HL1.out ?_)
    refine HP.out.mono ?_
    rintro r w1 ⟨z, rfl, hz, hb1⟩
    have hI1 := HI0.out.keep (V := fun _ => False) (OnlyS.of_below hb1 fun _ hk _ => hk) (fun _ _ e => e.elim)
    have HO1 := Lib.hid (HO0.out.then (OnlyS.of_below (S := fun _ => False) hb1 fun _ hk _ => hk) (fun _ _ e => e))
    have HC1 := Lib.hid (HB1.out.keep hb1)
    have HC2 := Lib.hid (HB2.out.keep hb1)
    obtain ⟨za, zc, rfl⟩ := hz.bys.shape
    have HT := Lib.hid (writer_text (.slice za (putL e).length zc) (putL e) 128 hI1 (fun W hW => by
      refine (row_to hz fun k hk => ?_).bys
      have h1 := World.ownsRow.lt hz k hk
      exact hW k (Nat.zero_le _) h1.2 (HsU.out k (by have := HS0.out; omega))) (by omega) (by decide) hl)
    obtain ⟨pn, hpn⟩ : ∃ pn, pn = (putL e).length := ⟨_, rfl⟩
    rw [← hpn] at HT ⊢
    clear hz hb1 hI1 hpn hpl
    go_wp2_with fail
    refine (takeRaw_ok (.slice za pn zc) _).mono ?_
    rintro r w2 ⟨rfl, hw2⟩
    rw [hw2]
    clear hw2 w2
    go_wp2_with fail
    refine HT.out.mono ?_
    rintro r w3 (⟨hle, rfl, ho3, U', hI3, hsub⟩ | ⟨hlt, -, -⟩)
    · have HC3 := Lib.hid (HC1.out.onlyS ho3 (HsU.out _ (Nat.le_refl _)))
      have HC4 := Lib.hid (HC2.out.onlyS ho3 (HsU.out _ (Nat.le_succ _)))
      have HL3 := Lib.hid (Blk.loads (P := Try.prog) HC3.out 42 _ Try.underlying42 rfl (by kernel_rfl))
      have HI3 := Lib.hid hI3
      have HO3 := Lib.hid ho3
      have HSub := Lib.hid hsub
      clear hle ho3 hI3 hsub
      go_wp2_with (first
        | (refine wpList_load_by rfl 42 (.tmp 3) rfl _ _ rfl HL3.out ?_)
        | (refine wpList_store_all rfl 42 (.tmp 4) (.tmp 12) rfl (w.heap.size + 1) (entC e a ca b cb) rfl rfl 42 zeroC HC4.out (by kernel_rfl) rfl (by simp [entC, Value.oneCell']) ?_; intro wz hb ho; (have HZ := Lib.hid hb); (have HO := Lib.hid ho); clear hb ho))
      have hU' : ¬ U' (w.heap.size + 1) := fun h => by
        rcases HSub.out _ h with h | h
        · exact HsU.out _ (Nat.le_succ _) h
        · have := HC2.out.lt
          omega
      have hsz1 : w.heap.size ≤ w1.heap.size := HO1.out.size
      have hall : OnlyS U w wz := ((HO1.out.mono (fun _ _ e => e.elim)).trans (HO3.out.mono fun _ _ h => h)).then HO.out (fun k hk e => by have e : k = w.heap.size + 1 := e; omega)
      refine bodyPost_ret (v := .agg (entC e a ca b cb)) (ret_ent1 rfl _ _ (w.heap.size + 1) (entC e a ca b cb) rfl rfl HZ.out) rfl ?_
      refine HEnd.good (D := 20000) (l := l) (val := isEnt X 0) (show wrH.entry e l = .ok (e, l ++ (numL (putL e).length ++ putL e)) by show (if formed e = true then _ else _) = _; rw [if_pos HF.out, if_pos HPl.out]) hall ⟨a, ca, b, cb, rfl, ?_⟩ (HI3.out.keep HO.out (fun k _ e => by have e : k = w.heap.size + 1 := e; subst e; exact hU')) (fun k hk => (HSub.out k hk).imp id fun h => by omega) ?_
      · exact HS.out.step hall (fun _ _ h => .inl h) (fun k hk h => h.elim (fun h => .inl ((HSub.out k h).resolve_right (by omega))) .inr)
      · have h1 := HPl.out
        have h2 := nb_le (putL e).length (by omega)
        simp only [List.length_append, numL_length]
        omega
    · exact absurd hlt (by have := HPl.out; omega)
  · have HP := Lib.hid (put_no e a b ca cb w0 hhas (by simpa using hf))
    have HE := Lib.hid (show wrH.entry e l = .error 1 by show (if formed e = true then _ else _) = _; rw [if_neg hf])
    clear hhas hf
    go_enter Try.func79, Try.ntmps79
    go_upto_region 1 with fail
    have e0 := HW0.out
    simp only [zeroC] at e0
    rw [← e0]
    clear e0 HW0
    go_wp2_with (refine wpList_load_by rfl 42 (.tmp 3) rfl _ _ rfl HL1.out ?_)
    refine HP.out.mono ?_
    rintro r w1 ⟨rfl, hb1⟩
    have HO1 := Lib.hid ((HO0.out.then (OnlyS.of_below (S := fun _ => False) hb1 fun _ hk _ => hk) (fun _ _ e => e)).mono (S := U) (fun _ _ e => e.elim))
    clear hb1
    go_wp2_with fail
    refine (takeRaw_bad (.slice none 0 0) 1 _ (by decide)).mono ?_
    rintro r w2 ⟨rfl, rfl⟩
    exact ⟨rfl, HEnd.bad HE.out HO1.out (by decide)⟩

/-- The writer is a hand. -/
theorem writer_hand (L Bw : Nat) : HandP wrH 47 (.pointer (some ⟨L, 0, none⟩)) (.pointer (some ⟨L, 0, none⟩)) 81 80 82 79 0 0 List.length (WrI L Bw) where
  mo := fun k w hk => by obtain ⟨n, rfl⟩ : ∃ n, k = n + 1 := ⟨k - 1, by omega⟩; kernel_rfl
  mn := fun k w hk => by obtain ⟨n, rfl⟩ : ∃ n, k = n + 1 := ⟨k - 1, by omega⟩; kernel_rfl
  mt := fun k w hk => by obtain ⟨n, rfl⟩ : ∃ n, k = n + 1 := ⟨k - 1, by omega⟩; kernel_rfl
  me := fun k w hk => by obtain ⟨n, rfl⟩ : ∃ n, k = n + 1 := ⟨k - 1, by omega⟩; kernel_rfl
  eo := enters _ (by kernel_rfl)
  en := enters _ (by kernel_rfl)
  et := enters _ (by kernel_rfl)
  ee := enters _ (by kernel_rfl)
  lt := fun hI => ⟨fun k hk => hI.lt k hk, Nat.zero_le _, Nat.zero_le _⟩
  keep := fun hI ho hV => hI.keep ho (fun k hk h => (hV k hk h).2)
  octet := fun c hI hc hl => writer_octet c hI hc hl
  number := fun n hI hn hl => writer_number n hI hn hl
  text := fun {w U l} X x b most hI _ hx hm hl => by
    refine (writer_text x b most hI (hx.1.step (OnlyS.refl (fun _ => False) _) (fun _ _ e => e.elim) (fun _ _ h => .inl h)) hx.2 hm hl).mono ?_
    rintro e w' (⟨hle, rfl, ho, U', hI', hs⟩ | ⟨hlt, rfl, rfl⟩)
    · refine HEnd.good (D := 20000) (l := l) (val := isText X 0) (show wrH.text most b l = .ok (b, l ++ (numL b.length ++ b)) by show (if b.length ≤ most then _ else _) = _; rw [if_pos hle]) ho ⟨hx.1.step ho (fun _ _ h => .inl h) (fun k hk h => h.elim (fun h => .inl ((hs k h).resolve_right (by omega))) .inr), hx.2⟩ hI' hs ?_
      have h2 := nb_le b.length (by omega)
      simp only [List.length_append, numL_length]
      omega
    · exact HEnd.bad (show wrH.text most b l = .error 4 by show (if b.length ≤ most then _ else _) = _; rw [if_neg (by omega)]) (OnlyS.refl _ _) (by decide)
  entry := fun X e x hI _ hx hl => writer_entry X e x hI hx hl
end Go.Proofs.Ytidapdooiibfnaa

/- Layer 18: the hand that reads, in memory. -/
namespace Go.Proofs.Ytidapdooiibfnaa
set_option maxRecDepth 20000
open Go.RowKit Go.Maps BinMath CmdMath Reg
open MsgMath (Mg Hand rdH)

/-- Of what is read the length doesn't matter. -/
def noLen (_ : List UInt8) : Nat := 0

/-- The reader at R, with l ahead of it; its bytes lie below G. -/
def RdI (R G : Nat) (L : List UInt8) (w : World) (U : Nat → Prop) (l : List UInt8) : Prop := (∀ k, U k ↔ k = R) ∧ At w R G L l

theorem RdI.keep {R G : Nat} {L : List UInt8} {w w' : World} {U V : Nat → Prop} {l : List UInt8} (h : RdI R G L w U l) (ho : OnlyS V w w') (hV : ∀ k, k < w.heap.size → V k → G ≤ k ∧ ¬ U k) : RdI R G L w' U l := by
  have hlt := h.2.lt
  exact ⟨h.1, h.2.only ho (fun b hb e => by have := (hV b (by omega) e).1; omega) (fun e => (hV R hlt.1 e).2 ((h.1 R).2 rfl))⟩

theorem RdI.next {R G : Nat} {L : List UInt8} {w w0 w' : World} {U : Nat → Prop} {l l' : List UInt8} (h : RdI R G L w U l) (h0 : Below w.heap.size w w0) (ho : Only R w0 w') (ha : At w' R G L l') : OnlyS U w w' ∧ RdI R G L w' U l' :=
  ⟨(OnlyS.of_below h0 fun _ hk _ => hk).trans ((OnlyS.of_only ho ((h.1 R).2 rfl)).mono fun _ _ e => e), h.1, ha⟩
theorem RdI.only {R G : Nat} {L : List UInt8} {w w0 w' : World} {U : Nat → Prop} {l : List UInt8} (h : RdI R G L w U l) (h0 : Below w.heap.size w w0) (ho : Only R w0 w') : OnlyS U w w' :=
  (OnlyS.of_below h0 fun _ hk _ => hk).trans ((OnlyS.of_only ho ((h.1 R).2 rfl)).mono fun _ _ e => e)

theorem readText_ok {R G : Nat} {l r q t : List UInt8} {w : World} (most : Nat) (hm : most ≤ 16384) (h : At w R G l r) (hg : gText most r = .ok (t, q)) :
    Calls Try.prog 102 #[.pointer (some ⟨R, 0, none⟩), .int .i64 (most : Int)] w fun e w' => ∃ v, e = .returned (.tuple #[v, .int .i64 0]) ∧ Row w' w.heap.size v t ∧ At w' R G l q ∧ Only R w w' := by
  obtain ⟨k, hk, rfl⟩ := h
  obtain ⟨u, e1, rfl⟩ := gText_ok hg
  have hN := rdRaw_any R l k 0 (most : Int) (by omega) w hk
  rw [Int.toNat_natCast, e1] at hN
  exact hN.mono fun e w' ⟨h1, v, h2, h3, h4⟩ => ⟨v, h2, h3, ⟨_, h4, rfl⟩, h1⟩

theorem readText_bad {R G : Nat} {l r : List UInt8} {c : Nat} {w : World} (most : Nat) (hm : most ≤ 16384) (h : At w R G l r) (hg : gText most r = .error c) :
    Calls Try.prog 102 #[.pointer (some ⟨R, 0, none⟩), .int .i64 (most : Int)] w fun e w' => ∃ a cap, e = .returned (.tuple #[.slice a 0 cap, .int .i64 (c : Int)]) ∧ Only R w w' := by
  obtain ⟨k, hk, rfl⟩ := h
  have hN := rdRaw_any R l k 0 (most : Int) (by omega) w hk
  rw [Int.toNat_natCast, gText_bad hg] at hN
  exact hN.mono fun e w' ⟨h1, v, h2, h3, _⟩ => by
    obtain ⟨a', c', e⟩ := slice_of_row h3
    exact ⟨a', c', by rw [h2, e]; rfl, h1⟩

set_option maxHeartbeats 1000000 in
theorem reader_octet {R G : Nat} {L : List UInt8} {w : World} {U : Nat → Prop} {l : List UInt8} (c : Nat) (hI : RdI R G L w U l) :
    Calls Try.prog 94 #[.agg #[.pointer (some ⟨R, 0, none⟩)], .int .u8 (c : Int)] w (HEnd 20000 noLen (RdI R G L) U l w (rdH.octet c l) isOct) := by
  have hb0 : Below w.heap.size w (w.alloc (.cells #[.pointer (some ⟨R, 0, none⟩)] 59)) := (Below.refl _ _).alloc (Nat.le_refl _) _
  have ha := hI.2.below hb0
  have HI := Lib.hid hI
  have HB := Lib.hid hb0
  clear hb0 hI
  cases hg : gByte l with
  | error d =>
    have hd : d = 2 := by cases l <;> simp [gByte] at hg; exact hg.symm
    subst hd
    have HR := Lib.hid (readByte_bad ha hg)
    have HE := Lib.hid (show rdH.octet c l = .error 2 from hg)
    clear ha hg
    go_enter Try.func94, Try.ntmps94
    go_wp2_with fail
    refine HR.out.mono ?_
    rintro e w2 ⟨rfl, ho⟩
    have HO := Lib.hid (HI.out.only HB.out ho)
    clear ho
    go_wp2_with fail
    refine (takeByte_bad 0 2 _ (by decide)).mono ?_
    rintro e w3 ⟨rfl, rfl⟩
    exact ⟨rfl, HEnd.bad HE.out HO.out (by decide)⟩
  | ok p =>
    obtain ⟨k, q⟩ := p
    have HR := Lib.hid (readByte_ok ha hg)
    have HE := Lib.hid (show rdH.octet c l = .ok (k, q) from hg)
    have HK := Lib.hid (gByte_back hg)
    clear ha hg
    go_enter Try.func94, Try.ntmps94
    go_wp2_with fail
    refine HR.out.mono ?_
    rintro e w2 ⟨rfl, ha, ho⟩
    have HO := Lib.hid (HI.out.next HB.out ho ha)
    clear ho ha
    go_wp2_with fail
    refine (takeByte_ok k _).mono ?_
    rintro e w3 ⟨rfl, rfl⟩
    go_wp2
    go_ret
    exact HEnd.good (D := 20000) (l := l) (val := isOct) HE.out HO.out.1 ⟨rfl, HK.out.1⟩ HO.out.2 (fun _ h => .inl h) (Nat.zero_le _)

set_option maxHeartbeats 1000000 in
theorem reader_number {R G : Nat} {L : List UInt8} {w : World} {U : Nat → Prop} {l : List UInt8} (n : Nat) (hI : RdI R G L w U l) :
    Calls Try.prog 93 #[.agg #[.pointer (some ⟨R, 0, none⟩)], .int .u64 (n : Int)] w (HEnd 20000 noLen (RdI R G L) U l w (rdH.number n l) isNum) := by
  have hb0 : Below w.heap.size w (w.alloc (.cells #[.pointer (some ⟨R, 0, none⟩)] 59)) := (Below.refl _ _).alloc (Nat.le_refl _) _
  have ha := hI.2.below hb0
  have HI := Lib.hid hI
  have HB := Lib.hid hb0
  clear hb0 hI
  cases hg : gNum l with
  | error d =>
    have hd := gNum_err hg
    have HR := Lib.hid (readNum_bad ha hg)
    have HE := Lib.hid (show rdH.number n l = .error d from hg)
    have HT := Lib.hid (fun w => takeNum_bad 0 d w (by omega))
    have HD := Lib.hid (show d ≠ 0 by omega)
    clear ha hg hd
    go_enter Try.func93, Try.ntmps93
    go_wp2_with fail
    refine HR.out.mono ?_
    rintro e w2 ⟨rfl, ho⟩
    have HO := Lib.hid (HI.out.only HB.out ho)
    clear ho
    go_wp2_with fail
    refine (HT.out _).mono ?_
    rintro e w3 ⟨rfl, rfl⟩
    exact ⟨rfl, HEnd.bad HE.out HO.out HD.out⟩
  | ok p =>
    obtain ⟨k, q⟩ := p
    have HR := Lib.hid (readNum_ok ha hg)
    have HE := Lib.hid (show rdH.number n l = .ok (k, q) from hg)
    have HK := Lib.hid (gNum_back hg)
    clear ha hg
    go_enter Try.func93, Try.ntmps93
    go_wp2_with fail
    refine HR.out.mono ?_
    rintro e w2 ⟨rfl, ha, ho⟩
    have HO := Lib.hid (HI.out.next HB.out ho ha)
    clear ho ha
    go_wp2_with fail
    refine (takeNum_ok k _).mono ?_
    rintro e w3 ⟨rfl, rfl⟩
    go_wp2
    go_ret
    exact HEnd.good (D := 20000) (l := l) (val := isNum) HE.out HO.out.1 ⟨rfl, HK.out.1⟩ HO.out.2 (fun _ h => .inl h) (Nat.zero_le _)

/-- How the reading of a text ends. -/
def RdText (R G : Nat) (L : List UInt8) (U : Nat → Prop) (l : List UInt8) (most : Nat) (w : World) (e : Ending) (w' : World) : Prop :=
  OnlyS U w w' ∧ match gText most l with
  | .error c => e = .panicked (gaveUp (c : Int))
  | .ok (b, q) => ∃ y, e = .returned y ∧ Row w' w.heap.size y b ∧ RdI R G L w' U q

set_option maxHeartbeats 1000000 in
theorem reader_text {R G : Nat} {L : List UInt8} {w : World} {U : Nat → Prop} {l : List UInt8} (x : Value) (most : Nat) (hm : most ≤ 16384) (hI : RdI R G L w U l) :
    Calls Try.prog 95 #[.agg #[.pointer (some ⟨R, 0, none⟩)], x, .int .i64 (most : Int)] w (RdText R G L U l most w) := by
  have hb0 : Below w.heap.size w (w.alloc (.cells #[.pointer (some ⟨R, 0, none⟩)] 59)) := (Below.refl _ _).alloc (Nat.le_refl _) _
  have ha := hI.2.below hb0
  have HI := Lib.hid hI
  have HB := Lib.hid hb0
  clear hb0 hI
  cases hg : gText most l with
  | error d =>
    have hd := gText_err hg
    have HR := Lib.hid (readText_bad most hm ha hg)
    have HE := Lib.hid hg
    have HT := Lib.hid (fun a cap w => takeRaw_bad (.slice a 0 cap) d w (by omega))
    clear ha hg hd hm
    go_enter Try.func95, Try.ntmps95
    go_wp2_with fail
    refine HR.out.mono ?_
    rintro e w2 ⟨a, cap, rfl, ho⟩
    have HO := Lib.hid (HI.out.only HB.out ho)
    clear ho
    go_wp2_with fail
    refine (HT.out _ _ _).mono ?_
    rintro e w3 ⟨rfl, rfl⟩
    refine ⟨rfl, HO.out, ?_⟩
    rw [HE.out]
  | ok p =>
    obtain ⟨b, q⟩ := p
    have HR := Lib.hid (readText_ok most hm ha hg)
    have HE := Lib.hid hg
    clear ha hg hm
    go_enter Try.func95, Try.ntmps95
    go_wp2_with fail
    refine HR.out.mono ?_
    rintro e w2 ⟨y, rfl, hr, ha, ho⟩
    have HO := Lib.hid (HI.out.next HB.out ho ha)
    have HRow := Lib.hid (row_low hr HB.out.size)
    obtain ⟨ya, yc, rfl⟩ := slice_of_row hr
    obtain ⟨yn, hyn⟩ : ∃ yn, yn = b.length := ⟨_, rfl⟩
    rw [← hyn] at HRow ⊢
    clear ho ha hr hyn
    go_wp2_with fail
    refine (takeRaw_ok (.slice ya yn yc) _).mono ?_
    rintro e w3 ⟨rfl, rfl⟩
    go_wp2
    go_ret
    refine ⟨HO.out.1, ?_⟩
    rw [HE.out]
    exact ⟨_, rfl, HRow.out, HO.out.2⟩

set_option maxHeartbeats 1000000 in
theorem takeEnt_ok (e : Ent) (a b : Option Addr) (ca cb : Nat) (w : World) : Calls Try.prog 96 #[.agg (entC e a ca b cb), .int .i64 0] w fun r w' => r = .returned (.agg (entC e a ca b cb)) ∧ Below w.heap.size w w' := by
  obtain ⟨w0, hw0⟩ : ∃ w0, w0 = (w.alloc (.cells (entC e a ca b cb) 42)).alloc (.cells zeroC 42) := ⟨_, rfl⟩
  have hb0 : Below w.heap.size w w0 := by rw [hw0]; exact ((Below.refl _ _).alloc (Nat.le_refl _) _).alloc (by simp) _
  have B1 : Blk w0 w.heap.size 42 (entC e a ca b cb) := by rw [hw0]; exact (Blk.new w _ _).alloc _
  have B2 : Blk w0 (w.heap.size + 1) 42 zeroC := by
    rw [hw0]
    have h := Blk.new (w.alloc (.cells (entC e a ca b cb) 42)) 42 zeroC
    rwa [World.size_alloc] at h
  have HW0 := Lib.hid hw0
  have HL1 := Lib.hid (Blk.loads (P := Try.prog) B1 42 _ Try.underlying42 rfl (by kernel_rfl))
  have HB2 := Lib.hid B2
  have HB0 := Lib.hid hb0
  clear hw0 hb0 B1 B2
  go_enter Try.func96, Try.ntmps96
  go_upto_region 1 with fail
  have e0 := HW0.out
  simp only [zeroC] at e0
  rw [← e0]
  clear e0 HW0
  go_wp2_with fail
  refine (must_ok _).mono ?_
  rintro r w1 ⟨rfl, hw1⟩
  rw [hw1]
  clear hw1 w1
  go_wp2_with (first
    | (refine wpList_load_by rfl 42 (.tmp 2) rfl _ _ rfl HL1.out ?_)
    | (refine wpList_store_all rfl 42 (.tmp 4) (.tmp 7) rfl (w.heap.size + 1) (entC e a ca b cb) rfl rfl 42 zeroC HB2.out (by kernel_rfl) rfl (by simp [entC, Value.oneCell']) ?_; intro wz hb ho; (have HZ := Lib.hid hb); (have HO := Lib.hid ho); clear hb ho))
  exact bodyPost_ret (v := .agg (entC e a ca b cb)) (ret_ent1 rfl _ _ (w.heap.size + 1) (entC e a ca b cb) rfl rfl HZ.out) rfl ⟨rfl, HB0.out.trans (HO.out.below (fun k hk e => by have e : k = w.heap.size + 1 := e; omega) HB0.out.size)⟩

set_option maxHeartbeats 1000000 in
theorem takeEnt_bad (e : Ent) (a b : Option Addr) (ca cb c : Nat) (hc : c ≠ 0) (w : World) : Calls Try.prog 96 #[.agg (entC e a ca b cb), .int .i64 (c : Int)] w fun r w' => r = .panicked (gaveUp (c : Int)) ∧ Below w.heap.size w w' := by
  have HM := Lib.hid (fun w => must_bad c w hc)
  have hb0 : Below w.heap.size w ((w.alloc (.cells (entC e a ca b cb) 42)).alloc (.cells zeroC 42)) := ((Below.refl _ _).alloc (Nat.le_refl _) _).alloc (by simp) _
  have HB0 := Lib.hid hb0
  clear hb0 hc
  go_enter Try.func96, Try.ntmps96
  go_wp2_with fail
  refine (HM.out _).mono ?_
  rintro r w1 ⟨rfl, rfl⟩
  exact ⟨rfl, rfl, HB0.out⟩
end Go.Proofs.Ytidapdooiibfnaa

/- Layer 18: the reader is a hand. -/
namespace Go.Proofs.Ytidapdooiibfnaa
set_option maxRecDepth 20000
open Go.RowKit Go.Maps BinMath CmdMath Reg
open MsgMath (Mg Hand rdH)

theorem rdEntry_err {e : Ent} {l : List UInt8} {c : Nat} (h : gText 128 l = .error c) : rdH.entry e l = .error c := MsgMath.bindP_err h
theorem rdEntry_bad {e : Ent} {l q x : List UInt8} (h : gText 128 l = .ok (x, q)) (hx : (getR x).2 ≠ 0) : rdH.entry e l = .error (getR x).2 := by
  show MsgMath.bindP (gText 128) _ l = _
  rw [MsgMath.bindP_ok h, if_neg hx]
  rfl
theorem rdEntry_ok {e : Ent} {l q x : List UInt8} (h : gText 128 l = .ok (x, q)) (hx : (getR x).2 = 0) : rdH.entry e l = .ok ((getR x).1, q) := by
  show MsgMath.bindP (gText 128) _ l = _
  rw [MsgMath.bindP_ok h, if_pos hx]
  rfl

theorem Mine.stay {w w' W : World} {B : Nat} {e : Ent} {a b : Option Addr} {ca cb : Nat} {Y : Nat → Prop} (h : Mine w' w.heap.size e a ca b cb) (hB : B ≤ w.heap.size) (hY : ∀ k, w.heap.size ≤ k → ¬ Y k) (hW : Like w' Y B W) : Has W e a ca b cb :=
  ⟨h.ok, (row_to h.d fun k hk => hW k (by have := World.ownsRow.lt h.d k hk; omega) (World.ownsRow.lt h.d k hk).2 (hY k (World.ownsRow.lt h.d k hk).1)).bys,
    (h.m.to fun k hk => hW k (by have := World.ownsRow.lt h.m k hk; omega) (World.ownsRow.lt h.m k hk).2 (hY k (World.ownsRow.lt h.m k hk).1)).nums, by have := h.dl; omega, by have := h.ml; omega⟩

set_option maxHeartbeats 2000000 in
theorem reader_entry {R G B : Nat} {L : List UInt8} {w : World} {U : Nat → Prop} {l : List UInt8} (X : Nat → Prop) (e : Ent) (x : Value) (hI : RdI R G L w U l) (hX : ∀ k, X k → k < w.heap.size) (hB : B ≤ w.heap.size) (hx : isEnt X B e x w U) :
    Calls Try.prog 92 #[.agg #[.pointer (some ⟨R, 0, none⟩)], x] w (HEnd 20000 noLen (RdI R G L) U l w (rdH.entry e l) (isEnt X B)) := by
  obtain ⟨a, ca, b, cb, rfl, -⟩ := hx
  obtain ⟨w0, hw0⟩ : ∃ w0, w0 = ((w.alloc (.cells #[.pointer (some ⟨R, 0, none⟩)] 59)).alloc (.cells (entC e a ca b cb) 42)).alloc (.cells zeroC 42) := ⟨_, rfl⟩
  have ho0 : OnlyS (fun _ => False) w w0 := by rw [hw0]; exact (((OnlyS.refl _ _).alloc _).alloc _).alloc _
  have hs0 : w0.heap.size = w.heap.size + 3 := by rw [hw0]; simp
  have hRl := hI.2.lt.1
  have hGl := hI.2.lt.2
  have hUR := hI.1
  have hI0 := hI.keep ho0 (fun _ _ e => e.elim)
  have B1 : Blk w0 w.heap.size 59 #[.pointer (some ⟨R, 0, none⟩)] := by rw [hw0]; exact ((Blk.new w _ _).alloc _).alloc _
  have B3 : Blk w0 (w.heap.size + 2) 42 zeroC := by
    rw [hw0]
    have h := Blk.new ((w.alloc (.cells #[.pointer (some ⟨R, 0, none⟩)] 59)).alloc (.cells (entC e a ca b cb) 42)) 42 zeroC
    rwa [World.size_alloc, World.size_alloc] at h
  have HL1 := Lib.hid (Blk.loads (P := Try.prog) B1 59 _ Try.underlying59 rfl (by kernel_rfl))
  have HB3 := Lib.hid B3
  have HS0 := Lib.hid hs0
  have HO0 := Lib.hid ho0
  have HW0 := Lib.hid hw0
  have HUR := Lib.hid hUR
  have HRl := Lib.hid hRl
  have HX := Lib.hid hX
  have HT := Lib.hid (reader_text (.slice none 0 0) 128 (by decide) hI0)
  clear hw0 ho0 hs0 hI B1 B3 hUR hX hI0
  have hU : ∀ k, w.heap.size ≤ k → ¬ U k := fun k hk h => by have := (HUR.out k).1 h; omega
  cases hg : gText 128 l with
  | error c =>
    have HE := Lib.hid (rdEntry_err (e := e) hg)
    have HC := Lib.hid (show c ≠ 0 by have := gText_err hg; omega)
    have HG := Lib.hid hg
    clear hg
    go_enter Try.func92, Try.ntmps92
    go_upto_region 1 with fail
    have e0 := HW0.out
    simp only [entC, zeroC] at e0
    simp only [entC]
    rw [← e0]
    clear e0 HW0
    go_wp2_with (refine wpList_load_by rfl 59 (.tmp 2) rfl _ _ rfl HL1.out ?_)
    refine HT.out.mono ?_
    rintro r w2 ⟨ho, hcase⟩
    rw [HG.out] at hcase
    obtain rfl := hcase
    exact ⟨rfl, HEnd.bad HE.out ((HO0.out.mono (fun _ _ e => e.elim)).trans (ho.mono fun _ _ h => h)) HC.out⟩
  | ok p =>
    obtain ⟨t, q⟩ := p
    have htl := (gText_back hg).1
    have HG := Lib.hid hg
    go_enter Try.func92, Try.ntmps92
    go_upto_region 1 with fail
    have e0 := HW0.out
    simp only [entC, zeroC] at e0
    simp only [entC]
    rw [← e0]
    clear e0 HW0 hg
    go_wp2_with (refine wpList_load_by rfl 59 (.tmp 2) rfl _ _ rfl HL1.out ?_)
    refine HT.out.mono ?_
    rintro r w2 ⟨ho, hcase⟩
    rw [HG.out] at hcase
    obtain ⟨y, rfl, hrow, hI2⟩ := hcase
    obtain ⟨ya, yc, rfl⟩ := slice_of_row hrow
    have HO2 := Lib.hid ((HO0.out.mono (S := U) (fun _ _ e => e.elim)).trans ho)
    have HB2 := Lib.hid (HB3.out.onlyS ho (hU _ (by omega)))
    have HGet := Lib.hid (get_any ya t.length yc t w2 hrow.bys (by omega))
    have HI2 := Lib.hid hI2
    have hsz2 : w.heap.size ≤ w2.heap.size := HO2.out.size
    obtain ⟨tn, htn⟩ : ∃ tn, tn = t.length := ⟨_, rfl⟩
    rw [← htn] at HGet ⊢
    clear ho hrow hI2 htn htl HT
    go_wp2_with fail
    refine HGet.out.mono ?_
    rintro r w3 ⟨xa, xca, xb, xcb, rfl, hmine, hb3⟩
    have HM := Lib.hid hmine
    have HO3 := Lib.hid (HO2.out.trans (OnlyS.of_below (S := U) hb3 fun _ hk _ => hk))
    have HB3' := Lib.hid (HB2.out.keep hb3)
    have HI3 := Lib.hid (HI2.out.keep (V := fun _ => False) (OnlyS.of_below hb3 fun _ hk _ => hk) (fun _ _ e => e.elim))
    have hsz3 : w2.heap.size ≤ w3.heap.size := hb3.size
    clear hmine hb3
    by_cases h0 : (getR t).2 = 0
    · have HE := Lib.hid (rdEntry_ok (e := e) HG.out h0)
      rw [h0]
      clear h0
      go_wp2_with fail
      refine (takeEnt_ok (getR t).1 xa xb xca xcb _).mono ?_
      rintro r w4 ⟨rfl, hb4⟩
      have HM4 := Lib.hid (show Mine w4 w2.heap.size (getR t).1 xa xca xb xcb from HM.out.far (OnlyS.of_below (S := fun _ => False) hb4 fun _ hk _ => hk) (fun _ _ e => e))
      have HO4 := Lib.hid (HO3.out.trans (OnlyS.of_below (S := U) hb4 fun _ hk _ => hk))
      have HB4 := Lib.hid (HB3'.out.keep hb4)
      have HI4 := Lib.hid (HI3.out.keep (V := fun _ => False) (OnlyS.of_below hb4 fun _ hk _ => hk) (fun _ _ e => e.elim))
      clear hb4
      go_wp2_with (refine wpList_store_all rfl 42 (.tmp 4) (.tmp 10) rfl (w.heap.size + 2) (entC (getR t).1 xa xca xb xcb) rfl rfl 42 zeroC HB4.out (by kernel_rfl) rfl (by simp [entC, Value.oneCell']) ?_; intro wz hb ho; (have HZ := Lib.hid hb); (have HO := Lib.hid ho); clear hb ho)
      have hg2 : w.heap.size + 2 < w2.heap.size := HB2.out.lt
      refine bodyPost_ret (v := .agg (entC (getR t).1 xa xca xb xcb)) (ret_ent1 rfl _ _ (w.heap.size + 2) _ rfl rfl HZ.out) rfl ?_
      refine HEnd.good (D := 20000) (l := l) (val := isEnt X B) HE.out (HO4.out.then HO.out (fun k hk e => by have e : k = w.heap.size + 2 := e; omega)) ⟨xa, xca, xb, xcb, rfl, fun W hW => ?_⟩ (HI4.out.keep HO.out (fun k _ e => by have e : k = w.heap.size + 2 := e; subst e; exact ⟨by omega, hU _ (by omega)⟩)) (fun _ h => .inl h) (Nat.zero_le _)
      have hm5 : Mine wz w2.heap.size (getR t).1 xa xca xb xcb := HM4.out.far HO.out (fun k hk e => by have e : k = w.heap.size + 2 := e; omega)
      exact hm5.stay (Nat.le_trans hB hsz2) (fun k hk h => h.elim (hU k (Nat.le_trans hsz2 hk)) (fun h => by have := HX.out k h; omega)) hW
    · have HE := Lib.hid (rdEntry_bad (e := e) HG.out h0)
      have HT2 := Lib.hid (fun w => takeEnt_bad (getR t).1 xa xb xca xcb (getR t).2 h0 w)
      have H0 := Lib.hid h0
      clear h0
      go_wp2_with fail
      refine (HT2.out _).mono ?_
      rintro r w4 ⟨rfl, hb4⟩
      exact ⟨rfl, HEnd.bad HE.out (HO3.out.trans (OnlyS.of_below (S := U) hb4 fun _ hk _ => hk)) H0.out⟩

/-- The reader is a hand. -/
theorem reader_hand (R G B : Nat) (L : List UInt8) (hB : B ≤ G) : HandP rdH 59 (.agg #[.pointer (some ⟨R, 0, none⟩)]) (.agg #[.pointer (some ⟨R, 0, none⟩)]) 94 93 95 92 G B noLen (RdI R G L) where
  mo := fun k w hk => by obtain ⟨n, rfl⟩ : ∃ n, k = n + 1 := ⟨k - 1, by omega⟩; kernel_rfl
  mn := fun k w hk => by obtain ⟨n, rfl⟩ : ∃ n, k = n + 1 := ⟨k - 1, by omega⟩; kernel_rfl
  mt := fun k w hk => by obtain ⟨n, rfl⟩ : ∃ n, k = n + 1 := ⟨k - 1, by omega⟩; kernel_rfl
  me := fun k w hk => by obtain ⟨n, rfl⟩ : ∃ n, k = n + 1 := ⟨k - 1, by omega⟩; kernel_rfl
  eo := enters _ (by kernel_rfl)
  en := enters _ (by kernel_rfl)
  et := enters _ (by kernel_rfl)
  ee := enters _ (by kernel_rfl)
  lt := fun hI => ⟨fun k hk => by have e := (hI.1 k).1 hk; subst e; exact hI.2.lt.1, hI.2.lt.2, Nat.le_trans hB hI.2.lt.2⟩
  keep := fun hI ho hV => hI.keep ho hV
  octet := fun c hI _ _ => reader_octet c hI
  number := fun n hI _ _ => reader_number n hI
  text := fun {w U l} X x b most hI hX _ hm _ => by
    refine (reader_text x most hm hI).mono ?_
    rintro e w' ⟨ho, hcase⟩
    cases hg : gText most l with
    | error c =>
      rw [hg] at hcase
      obtain rfl := hcase
      exact HEnd.bad hg ho (by have := gText_err hg; omega)
    | ok p =>
      obtain ⟨t, q⟩ := p
      rw [hg] at hcase
      obtain ⟨y, rfl, hrow, hI'⟩ := hcase
      have hRl := hI.2.lt
      have hb := gText_back hg
      refine HEnd.good (D := 20000) (l := l) (val := isText X B) hg ho ⟨fun W hW => (row_to hrow fun k hk => ?_).bys, by omega⟩ hI' (fun _ h => .inl h) (Nat.zero_le _)
      have h1 := World.ownsRow.lt hrow k hk
      exact hW k (by omega) h1.2 (fun h => h.elim (fun h => by have e := (hI'.1 k).1 h; omega) (fun h => by have := hX k h; omega))
  entry := fun X e x hI hX hx _ => reader_entry X e x hI hX (Nat.le_trans hB hI.2.lt.2) hx
end Go.Proofs.Ytidapdooiibfnaa

