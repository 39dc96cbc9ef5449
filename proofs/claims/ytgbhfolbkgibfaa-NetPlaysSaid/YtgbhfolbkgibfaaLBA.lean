/- Joined: NetAtP, NetTakeP, NetAwake, NetProgram, NetRefWays. -/
import Derived.Test.YtgbhfolbkgibfaaLAP
import Derived.Test.YtgbhfolbkgibfaaLAQ
import Derived.Test.YtgbhfolbkgibfaaLAY
import Derived.Test.YtgbhfolbkgibfaaLAZ
import Derived.Test.YtgbhfolbkgibfaaLAB
import Derived.Test.YtgbhfolbkgibfaaLAO
/- Layer 19: At, Take of the landed net. -/
namespace Go.Proofs.Ytgbhfolbkgibfaa
set_option maxRecDepth 20000
open Go.RowKit Go.Maps BinMath NetMath
open MsgMath (Mg formedM putM getM)

set_option maxHeartbeats 2000000 in
theorem nat_any {w : World} {P : Nat} {n : Nt} {U : Nat → Prop} {m : Nat} {v : Value} {ts : List (Value × Mg)} (h : NIs w P n U m v ts) (i : Int) :
    Calls Try.prog 15 #[np P, .int .i64 i] w fun e w' => mgAns w.heap.size (n.at_ i).1 (n.at_ i).2 e w' ∧ Below w.heap.size w w' := by
  obtain ⟨w0, hw0⟩ : ∃ w0, w0 = w.alloc (.cells zeroM 36) := ⟨_, rfl⟩
  have hb0 : Below w.heap.size w w0 := by rw [hw0]; exact (Below.refl _ _).alloc (Nat.le_refl _) _
  have hs0 : w0.heap.size = w.heap.size + 1 := by rw [hw0, World.size_alloc]
  have HZ0 := Lib.hid (show Blk w0 w.heap.size 36 zeroM by rw [hw0]; exact Blk.new w _ _)
  have h0 : NIs w0 P n U m v ts := h.keep (OnlyS.of_below (S := fun _ => False) hb0 fun _ hk _ => hk) fun _ _ e => e.elim
  have HB := Lib.hid (nhas_any h0 i)
  have HB0 := Lib.hid hb0
  have HS0 := Lib.hid hs0
  have HW0 := Lib.hid hw0
  by_cases hi : 0 ≤ i ∧ i.toNat < ts.length
  · obtain ⟨j, rfl⟩ : ∃ j : Nat, i = (j : Int) := ⟨i.toNat, by omega⟩
    have hj : j < ts.length := by omega
    have hj2 : j < n.L.length := by rw [h.len]; exact hj
    rw [decide_eq_true hi] at HB
    obtain ⟨⟨x, mg⟩, ht⟩ : ∃ t, ts[j]? = some t := ⟨ts[j], List.getElem?_eq_getElem hj⟩
    have hmem := List.mem_of_getElem? ht
    have hmg : n.L[j]? = some mg := by rw [← h.msgs, List.getElem?_map, ht]; rfl
    have hx : (ts.map Prod.fst)[j]? = some x := by rw [List.getElem?_map, ht]; rfl
    have e2 : n.at_ (j : Int) = (mg, 0) := by
      unfold Nt.at_
      rw [dif_pos ⟨by omega, by simpa using hj2⟩]
      obtain ⟨_, h5⟩ := List.getElem?_eq_some_iff.1 hmg
      have e3 : n.L[(j : Int).toNat]'(by simpa using hj2) = mg := h5
      rw [e3]
    rw [e2]
    have htx := h0.txt _ hmem
    obtain ⟨xa, xc, hxe, hxl, hxr⟩ := htx.row
    simp only at hxe hxl hxr
    subst hxe
    have hlen : (putM mg).length ≤ 20000 := (putM_len htx.ok htx.formed).2
    have hG := msgGet_new xa (putM mg).length xc (putM mg) w0 hxr.bys (by omega)
    have hg2 := MsgMath.getM_lay mg htx.ok htx.formed
    rw [hg2] at hG
    have HG := Lib.hid hG
    obtain ⟨a, c, rfl, -⟩ := ownsRow_shape h0.row
    obtain ⟨g, rfl, hc⟩ := txs_cell h0.row hx
    have c0 : w0.cell? ⟨P, 0, none⟩ = some (.slice (some ⟨g, 0, none⟩) ts.length c) := by rw [h0.blk.cell]; rfl
    have hjl : (j : Int) < (ts.length : Int) := by omega
    obtain ⟨l, hl⟩ : ∃ l, l = ts.length := ⟨_, rfl⟩
    rw [← hl] at c0 hjl
    obtain ⟨lx, hlx⟩ : ∃ l, l = (putM mg).length := ⟨_, rfl⟩
    rw [← hlx] at hc HG
    clear h h0 hmem hx ht hmg hj hj2 hi e2 hl hlx hb0 hs0 hw0 htx hxl hxr hG hg2 hlen
    go_enter Try.func15, Try.ntmps15
    go_wp2_with fail
    have e0 : w0 = w.alloc (.cells #[.int .i64 0, .int .u64 0, .int .u64 0, .int .u64 0, .int .u64 0, .int .u64 0, .int .u64 0, .int .u64 0, .bool false, .slice none 0 0, .slice none 0 0, .slice none 0 0] 36) := HW0.out
    rw [← e0]
    refine HB.out.mono ?_
    rintro e w2 ⟨rfl, rfl⟩
    clear e0 HW0
    go_wp2_with fail
    refine HG.out.mono ?_
    rintro e w2 ⟨ve, vm, vg, us, rfl, hf, hb⟩
    have HF := Lib.hid hf
    have HB2 := Lib.hid hb
    have HZ2 := Lib.hid (HZ0.out.keep hb)
    clear hb hf HG c0 hc
    go_wp2_with (refine wpList_store_all rfl 36 (.tmp 4) (.tmp 19) rfl w.heap.size (mgC mg ve vm vg) rfl rfl 36 zeroM HZ2.out (mgC_info mg ve vm vg) rfl (mgC_one HF.out.has) ?_; intro w3 hb ho; (have HZ3 := Lib.hid hb); (have HO3 := Lib.hid ho); clear hb ho)
    refine bodyPost_ret (v := .tuple #[.agg (mgC mg ve vm vg), .int .i64 0]) (ret_msg rfl _ _ w.heap.size (mgC mg ve vm vg) _ rfl rfl rfl HZ3.out) rfl ⟨⟨ve, vm, vg, us, rfl, fun W hW => HF.out W fun k hk hl => ?_⟩, ?_⟩
    · have e : k ≠ w.heap.size := by have := HS0.out; omega
      rw [hW k (by have := HS0.out; omega) (Nat.lt_of_lt_of_le hl HO3.out.size), HO3.out.block k hl e]
    · exact (HB0.out.trans (HB2.out.mono HB0.out.size)).trans (HO3.out.below (fun k hk e => by have e : k = w.heap.size := e; omega) (Nat.le_trans HB0.out.size HB2.out.size))
  · rw [decide_eq_false hi] at HB
    have e2 : n.at_ i = (Mg.zero, 9) := by
      unfold Nt.at_
      rw [dif_neg (by rw [h.len]; exact hi)]
    rw [e2]
    clear h h0 e2 hi hb0 hs0 hw0
    go_enter Try.func15, Try.ntmps15
    go_wp2_with fail
    have e0 : w0 = w.alloc (.cells #[.int .i64 0, .int .u64 0, .int .u64 0, .int .u64 0, .int .u64 0, .int .u64 0, .int .u64 0, .int .u64 0, .bool false, .slice none 0 0, .slice none 0 0, .slice none 0 0] 36) := HW0.out
    rw [← e0]
    refine HB.out.mono ?_
    rintro e w2 ⟨rfl, rfl⟩
    clear e0 HW0
    go_wp2_with (refine wpList_store_all rfl 36 (.tmp 4) (.tmp 10) rfl w.heap.size zeroM rfl rfl 36 zeroM HZ0.out (mgM_info _ _ _ _) rfl zeroM_one ?_; intro w3 hb ho; (have HZ3 := Lib.hid hb); (have HO3 := Lib.hid ho); clear hb ho)
    refine bodyPost_ret (v := .tuple #[.agg zeroM, .int .i64 9]) (ret_msg rfl _ _ w.heap.size zeroM _ rfl rfl rfl HZ3.out) rfl ⟨⟨.slice none 0 0, .slice none 0 0, .slice none 0 0, [], rfl, fun W _ => ⟨MHas.zero W, mfree_nil _ _⟩⟩, ?_⟩
    exact HB0.out.trans (HO3.out.below (fun k hk e => by have e : k = w.heap.size := e; omega) HB0.out.size)
end Go.Proofs.Ytgbhfolbkgibfaa

/- Layer 19: Take of the landed net. -/
namespace Go.Proofs.Ytgbhfolbkgibfaa
set_option maxRecDepth 20000
open Go.RowKit Go.Maps BinMath NetMath
open MsgMath (Mg formedM putM getM)

theorem map_erase {α β : Type} (f : α → β) : ∀ (l : List α) (i : Nat), (l.map f).eraseIdx i = (l.eraseIdx i).map f
  | [], _ => rfl
  | _ :: _, 0 => rfl
  | x :: r, i + 1 => by simp [List.eraseIdx, map_erase f r i]

set_option maxHeartbeats 4000000 in
theorem ntake_any {w : World} {P : Nat} {n : Nt} {U : Nat → Prop} {m : Nat} {v : Value} {ts : List (Value × Mg)} (h : NIs w P n U m v ts) (i : Int) :
    Calls Try.prog 13 #[np P, .int .i64 i] w (NetEnd IsNet P U (n.take i) w (mgAns w.heap.size (n.at_ i).1 (n.at_ i).2)) := by
  obtain ⟨w0, hw0⟩ : ∃ w0, w0 = w.alloc (.cells zeroM 36) := ⟨_, rfl⟩
  have hb0 : Below w.heap.size w w0 := by rw [hw0]; exact (Below.refl _ _).alloc (Nat.le_refl _) _
  have hs0 : w0.heap.size = w.heap.size + 1 := by rw [hw0, World.size_alloc]
  have HZ0 := Lib.hid (show Blk w0 w.heap.size 36 zeroM by rw [hw0]; exact Blk.new w _ _)
  have h0 : NIs w0 P n U m v ts := h.keep (OnlyS.of_below (S := fun _ => False) hb0 fun _ hk _ => hk) fun _ _ e => e.elim
  have HAt := Lib.hid (nat_any h0 i)
  have HB0 := Lib.hid hb0
  have HS0 := Lib.hid hs0
  have HW0 := Lib.hid hw0
  have HH := Lib.hid h
  by_cases hi : 0 ≤ i ∧ i.toNat < ts.length
  · obtain ⟨j, rfl⟩ : ∃ j : Nat, i = (j : Int) := ⟨i.toNat, by omega⟩
    have hj : j < ts.length := by omega
    have hj2 : j < n.L.length := by rw [h.len]; exact hj
    obtain ⟨mg, hmg⟩ : ∃ mg, n.L[j]? = some mg := ⟨n.L[j], List.getElem?_eq_getElem hj2⟩
    have e2 : n.at_ (j : Int) = (mg, 0) := by
      unfold Nt.at_
      rw [dif_pos ⟨by omega, by simpa using hj2⟩]
      obtain ⟨_, h5⟩ := List.getElem?_eq_some_iff.1 hmg
      have e3 : n.L[(j : Int).toNat]'(by simpa using hj2) = mg := h5
      rw [e3]
    have e4 : n.take (j : Int) = ⟨n.L.eraseIdx j, n.W⟩ := by
      unfold Nt.take
      rw [if_pos ⟨by omega, by simpa using hj2⟩]
      rfl
    rw [e2] at HAt
    rw [e2, e4]
    obtain ⟨a, c, rfl, -⟩ := ownsRow_shape h.row
    obtain ⟨g, rfl, -⟩ := txs_cell h.row (i := j) (x := (ts.map Prod.fst)[j]'(by simpa using hj)) (List.getElem?_eq_getElem _)
    have HOne := Lib.hid (show ∀ u ∈ ts.map Prod.fst, u.oneCell' = true from fun u hu => by
      obtain ⟨t, ht, rfl⟩ := List.mem_map.1 hu
      exact (h.txt t ht).one)
    have HJ := Lib.hid hj
    have HFew := Lib.hid h.few
    obtain ⟨j1, hj1⟩ : ∃ q, q = j + 1 := ⟨_, rfl⟩
    have ej : IntKind.i64.wrap ((j : Int) + 1) = (j1 : Int) := by have := h.few; rw [IntKind.wrap_i64]; omega
    have HJ1 := Lib.hid hj1
    obtain ⟨l, hl⟩ : ∃ l, l = ts.length := ⟨_, rfl⟩
    have HL := Lib.hid hl
    clear h h0 hmg hj hj2 hi e2 e4 hb0 hs0 hw0 hj1
    go_enter Try.func13, Try.ntmps13
    go_wp2_with fail
    have e0 : w0 = w.alloc (.cells #[.int .i64 0, .int .u64 0, .int .u64 0, .int .u64 0, .int .u64 0, .int .u64 0, .int .u64 0, .int .u64 0, .bool false, .slice none 0 0, .slice none 0 0, .slice none 0 0] 36) := HW0.out
    rw [← e0]
    refine HAt.out.mono ?_
    rintro e w2 ⟨⟨ve, vm, vg, us, rfl, hf⟩, hb⟩
    clear e0 HW0 HAt
    have HF := Lib.hid hf
    have HB2 := Lib.hid (HB0.out.trans (hb.mono HB0.out.size))
    have HZ2 := Lib.hid (HZ0.out.keep hb)
    have HS2 := Lib.hid hb.size
    clear hb hf
    go_wp2_with (refine wpList_store_all rfl 36 (.tmp 6) (.tmp 12) rfl w2.heap.size (mgC mg ve vm vg) rfl rfl 36 zeroM (Blk.new w2 _ _) (mgC_info mg ve vm vg) rfl (mgC_one HF.out.has) ?_; intro w3 hb ho; (have HG3 := Lib.hid hb); (have HW3 := Lib.hid (show Below w2.heap.size w2 w3 from ((Below.refl _ _).alloc (Nat.le_refl _) _).trans (ho.below (fun k hk e => by have e : k = w2.heap.size := e; omega) (by simp)))); clear hb ho; (have HB3 := Lib.hid (HB2.out.trans (HW3.out.mono HB2.out.size))); (have h3 := HH.out.keep (OnlyS.of_below (S := fun _ => False) HB3.out fun _ hk _ => hk) (fun _ _ e => e.elim)); (have H3 := Lib.hid h3); (have c0 : w3.cell? ⟨P, 0, none⟩ = some (.slice (some ⟨g, 0, none⟩) ts.length c) := by rw [h3.blk.cell]; rfl); (have HD := Lib.hid (ndelete_any h3.row HJ.out HJ1.out HOne.out)); clear h3)
    refine HD.out.mono ?_
    rintro e w4 ⟨rfl, hr, ho⟩
    have hgP : g ≠ P := fun e => ownsRow_apart H3.out.row H3.out.blk (by decide) (by simp [Value.ownBlock, e])
    have hgU : g < w.heap.size := HH.out.ul g (HH.out.uv g rfl)
    have hPU : P < w.heap.size := HH.out.ul P HH.out.uP
    have HGP := Lib.hid hgP
    have HGU := Lib.hid hgU
    have HPU := Lib.hid hPU
    have hw2 : w.heap.size ≤ w2.heap.size := HB2.out.size
    have HR := Lib.hid hr
    have HO := Lib.hid ho
    have HP4 := Lib.hid (H3.out.blk.onlyS ho (fun e => hgP e.symm))
    have HG4 := Lib.hid (HG3.out.onlyS ho (by omega))
    have HZ4 := Lib.hid ((HZ2.out.keep HW3.out).onlyS ho (by omega))
    clear hr ho hgP hgU hPU hw2 c0 HD
    obtain ⟨l1, hl1⟩ : ∃ q, q = ts.length - 1 := ⟨_, rfl⟩
    have HL1 := Lib.hid hl1
    rw [← hl1] at HR ⊢
    clear hl1
    go_wp2_with (first
      | (refine wpList_store_fld rfl 58 (.tmp 26) (.tmp 24) rfl P 0 (.slice (some ⟨g, 0, none⟩) l1 c) rfl rfl 60 #[.slice (some ⟨g, 0, none⟩) ts.length c, .map (some m)] #[.slice (some ⟨g, 0, none⟩) l1 c, .map (some m)] HP4.out (by simp) rfl (by kernel_rfl) rfl ?_; intro w5 hb ho; (have HP5 := Lib.hid hb); (have HO5 := Lib.hid ho); (have HG5 := Lib.hid (HG4.out.onlyS ho (by have := HPU.out; have := HB2.out.size; omega))); (have HZ5 := Lib.hid (HZ4.out.onlyS ho (by have := HPU.out; omega))); clear hb ho)
      | (refine wpList_load_by rfl 36 (.tmp 6) rfl _ (.agg (mgC mg ve vm vg)) rfl (Blk.loads (P := Try.prog) HG5.out 36 _ Try.underlying36 rfl (mgC_info _ _ _ _)) ?_)
      | (refine wpList_store_all rfl 36 (.tmp 4) (.tmp 27) rfl w.heap.size (mgC mg ve vm vg) rfl rfl 36 zeroM HZ5.out (mgC_info mg ve vm vg) rfl (mgC_one HF.out.has) ?_; intro w6 hb ho; (have HZ6 := Lib.hid hb); (have HO6 := Lib.hid ho); clear hb ho))
    have s2 := HB2.out.size
    have s3 := HW3.out.size
    have s4 := HO.out.size
    have s5 := HO5.out.size
    have s6 := HO6.out.size
    have s02 := HS2.out
    have s0 := HS0.out
    have gU := HGU.out
    have pU := HPU.out
    have hap := ownsRow_apart HR.out HP4.out (by decide)
    have hr5 := ownsRow_to HR.out fun k e => HO5.out.block k (World.ownsRow.lt HR.out k e).2 fun e2 => hap (e2 ▸ e)
    have el : (ts.eraseIdx j).length = l1 := by rw [List.length_eraseIdx_of_lt HJ.out, HL1.out]
    have hn5 := H3.out.next (n' := ⟨n.L.eraseIdx j, n.W⟩) (v' := .slice (some ⟨g, 0, none⟩) l1 c) (ts' := ts.eraseIdx j) (U := U) ((HO.out.mono fun k _ e => .inr (by rw [e]; rfl)).then HO5.out fun k _ e => .inl e) HP5.out
      (by rw [el, ← map_erase]; exact hr5) (fun k e => .inl (by simpa [Value.ownBlock] using e)) (fun t ht => .inl (List.mem_of_mem_eraseIdx ht)) (by rw [← map_erase, HH.out.msgs]) rfl (by have := HFew.out; have := HL1.out; rw [el]; omega)
    have hn6 := hn5.keep HO6.out (fun k hk e => by
      have e : k = w.heap.size := e
      subst e
      rintro ⟨e2 | e2, -⟩
      · exact absurd (HH.out.ul _ e2) (Nat.lt_irrefl _)
      · omega)
    have ho6 : OnlyS U w w6 := (((OnlyS.of_below (S := U) HB3.out fun _ hk _ => hk).then HO.out fun k _ e => by have e : k = g := e; rw [e]; exact HH.out.uv g rfl).then HO5.out fun k _ e => by have e : k = P := e; rw [e]; exact HH.out.uP).then HO6.out fun k hk e => by
      have e : k = w.heap.size := e
      omega
    refine bodyPost_ret (v := .tuple #[.agg (mgC mg ve vm vg), .int .i64 0]) (ret_msg rfl _ _ w.heap.size (mgC mg ve vm vg) _ rfl rfl rfl HZ6.out) rfl ⟨⟨ve, vm, vg, us, rfl, ?_⟩, ho6, _, ⟨m, _, _, hn6⟩, fun k e => e.1.imp id fun e => by omega⟩
    refine MNew.low (B := w0.heap.size) (HF.out.to (by omega) fun k hk hl => ?_) (by omega)
    have e1 : k ≠ w.heap.size := by omega
    have e2 : k ≠ P := by omega
    have e3 : k ≠ g := by omega
    rw [HO6.out.block k (by omega) e1, HO5.out.block k (by omega) e2, HO.out.block k (by omega) e3, HW3.out.block k hl]
  · have e2 : n.at_ i = (Mg.zero, 9) := by
      unfold Nt.at_
      rw [dif_neg (by rw [h.len]; exact hi)]
    have e4 : n.take i = n := by
      unfold Nt.take
      rw [if_neg (by rw [h.len]; exact hi)]
    rw [e2] at HAt
    rw [e2, e4]
    clear h h0 e2 e4 hi hb0 hs0 hw0
    go_enter Try.func13, Try.ntmps13
    go_wp2_with fail
    have e0 : w0 = w.alloc (.cells #[.int .i64 0, .int .u64 0, .int .u64 0, .int .u64 0, .int .u64 0, .int .u64 0, .int .u64 0, .int .u64 0, .bool false, .slice none 0 0, .slice none 0 0, .slice none 0 0] 36) := HW0.out
    rw [← e0]
    refine HAt.out.mono ?_
    rintro e w2 ⟨⟨ve, vm, vg, us, rfl, hf⟩, hb⟩
    clear e0 HW0 HAt
    have HF := Lib.hid hf
    have HB2 := Lib.hid (HB0.out.trans (hb.mono HB0.out.size))
    have HZ2 := Lib.hid (HZ0.out.keep hb)
    have HS2 := Lib.hid hb.size
    clear hb hf
    go_wp2_with (first
      | (refine wpList_store_all rfl 36 (.tmp 6) (.tmp 12) rfl w2.heap.size (mgC Mg.zero ve vm vg) rfl rfl 36 zeroM (Blk.new w2 _ _) (mgC_info _ ve vm vg) rfl (mgC_one HF.out.has) ?_; intro w3 hb ho; (have HG3 := Lib.hid hb); (have HW3 := Lib.hid (show Below w2.heap.size w2 w3 from ((Below.refl _ _).alloc (Nat.le_refl _) _).trans (ho.below (fun k hk e => by have e : k = w2.heap.size := e; omega) (by simp)))); clear hb ho; (have HB3 := Lib.hid (HB2.out.trans (HW3.out.mono HB2.out.size))); (have HZ3 := Lib.hid (HZ2.out.keep HW3.out)))
      | (refine wpList_load_by rfl 36 (.tmp 6) rfl _ (.agg (mgC Mg.zero ve vm vg)) rfl (Blk.loads (P := Try.prog) HG3.out 36 _ Try.underlying36 rfl (mgC_info _ _ _ _)) ?_)
      | (refine wpList_store_all rfl 36 (.tmp 4) (.tmp 27) rfl w.heap.size (mgC Mg.zero ve vm vg) rfl rfl 36 zeroM HZ3.out (mgC_info _ ve vm vg) rfl (mgC_one HF.out.has) ?_; intro w6 hb ho; (have HZ6 := Lib.hid hb); (have HO6 := Lib.hid ho); clear hb ho))
    have s2 := HB2.out.size
    have s3 := HW3.out.size
    have s6 := HO6.out.size
    have s02 := HS2.out
    have s0 := HS0.out
    refine bodyPost_ret (v := .tuple #[.agg (mgC Mg.zero ve vm vg), .int .i64 9]) (ret_msg rfl _ _ w.heap.size (mgC Mg.zero ve vm vg) _ rfl rfl rfl HZ6.out) rfl (HH.out.end_ (HB3.out.trans (HO6.out.below (fun k hk e => by have e : k = w.heap.size := e; omega) HB3.out.size)) ⟨ve, vm, vg, us, rfl, ?_⟩)
    refine MNew.low (B := w0.heap.size) (HF.out.to (by omega) fun k hk hl => ?_) (by omega)
    have e1 : k ≠ w.heap.size := by omega
    rw [HO6.out.block k (by omega) e1, HW3.out.block k hl]
end Go.Proofs.Ytgbhfolbkgibfaa

/- Layer 19's law: small messages, awake; and no net. -/
namespace Go.Proofs.Ytgbhfolbkgibfaa
set_option maxRecDepth 20000
open Go.RowKit BinMath NetMath
open MsgMath (Mg)

/-- A small message. -/
def voteM (f o t : Nat) : Mg := ⟨2, f, o, t, 0, 0, 0, 0, false, [], [], []⟩
def voteC (f o t : Nat) : Array Value := #[.int .i64 2, .int .u64 (f : Int), .int .u64 (o : Int), .int .u64 (t : Int), .int .u64 0, .int .u64 0, .int .u64 0, .int .u64 0, .bool false, .slice none 0 0, .slice none 0 0, .slice none 0 0]
theorem voteC_is (f o t : Nat) : voteC f o t = mgC (voteM f o t) (.slice none 0 0) (.slice none 0 0) (.slice none 0 0) := rfl
theorem vote_has (w : World) (f o t : Nat) (hf : f < 18446744073709551616) (ho : o < 18446744073709551616) (ht : t < 18446744073709551616) : MHas w (voteM f o t) (.slice none 0 0) (.slice none 0 0) (.slice none 0 0) [] :=
  ⟨⟨by simp [voteM], by simp [voteM], hf, ho, ht, by simp [voteM], by simp [voteM], by simp [voteM], by simp [voteM], by simp [voteM], by simp [voteM]⟩, .inl ⟨rfl, rfl⟩, fun u hu => absurd hu List.not_mem_nil, rfl, .inl ⟨rfl, rfl⟩, .inl ⟨rfl, rfl⟩, by simp, by simp [voteM], by simp [voteM]⟩

set_option maxHeartbeats 1000000 in
theorem vote_any (t : Nat) (w : World) : Calls Try.prog 21 #[.int .u64 (t : Int)] w fun e w' => e = .returned (.agg (voteC 1 2 t)) ∧ Below w.heap.size w w' := by
  have HB := Lib.hid (Blk.new w 36 zeroM)
  go_enter Try.func21, Try.ntmps21
  go_wp2_with (refine wpList_store_all rfl 36 (.tmp 2) (.tmp 4) rfl w.heap.size (voteC 1 2 t) rfl rfl 36 zeroM (Blk.new w 36 zeroM) (by kernel_rfl) rfl (by simp [voteC, Value.oneCell']) ?_; intro w2 hb ho; (have HZ := Lib.hid hb); (have HO := Lib.hid ho); clear hb ho)
  exact bodyPost_ret (v := .agg (voteC 1 2 t)) (results_cell_row rfl _ _ w.heap.size 36 (voteC 1 2 t) (0, 0) _ rfl HZ.out Try.underlying36 rfl (by kernel_rfl)) rfl ⟨rfl, ((Below.refl w.heap.size w).alloc (Nat.le_refl _) _).trans (HO.out.below (fun k hk e => by have e : k = w.heap.size := e; omega) (by rw [World.size_alloc]; omega))⟩

set_option maxHeartbeats 4000000 in
theorem awake19_any (hp : NetProg) (w : World) : Calls Try.prog 7 #[] w fun e w' => e = .returned (.bool true) ∧ Below w.heap.size w w' := by
  have HN := Lib.hid (hp.new_ w)
  go_enter Try.func7, Try.ntmps7
  go_wp2_with fail
  refine HN.out.mono ?_
  rintro e w1 ⟨P, U, rfl, hi, hb, hU⟩
  have HI := Lib.hid hi
  have HB := Lib.hid hb
  have HU := Lib.hid hU
  clear hi hb hU HN
  go_wp2_with fail
  refine (vote_any 5 w1).mono ?_
  rintro e w2 ⟨rfl, hb2⟩
  have hi2 := hp.keep HI.out (OnlyS.of_below (S := fun _ => False) hb2 fun _ hk _ => hk) (fun _ _ e => e.elim)
  have HS := Lib.hid (hp.send (voteM 1 2 5) (.slice none 0 0) (.slice none 0 0) (.slice none 0 0) [] hi2 (vote_has w2 1 2 5 (by decide) (by decide) (by decide)) (by decide))
  have HB2 := Lib.hid (HB.out.trans (hb2.mono HB.out.size))
  have HK2 := Lib.hid hb2.size
  clear hi2 hb2
  rw [show (Nt.none.send (voteM 1 2 5)) = (0, ⟨[voteM 1 2 5], []⟩) from rfl] at HS
  rw [voteC_is]
  go_wp2_with fail
  refine HS.out.mono ?_
  rintro e w3 ⟨rfl, ho, U2, hi3, hU2⟩
  have HB3 := Lib.hid (HB2.out.trans (ho.below (B := w.heap.size) (fun k hk h => by have := HU.out k h; omega) HB2.out.size))
  have HU2 := Lib.hid (show ∀ k, U2 k → w.heap.size ≤ k from fun k hk => (hU2 k hk).elim (HU.out k) (fun h => Nat.le_trans HB2.out.size h))
  have HT := Lib.hid (hp.twice 0 hi3 (by decide) (by decide))
  clear ho hi3 hU2 HS
  rw [show ((⟨[voteM 1 2 5], []⟩ : Nt).twice 0) = (0, ⟨[voteM 1 2 5, voteM 1 2 5], []⟩) from rfl] at HT
  go_wp2_with fail
  refine HT.out.mono ?_
  rintro e w4 ⟨rfl, ho, U3, hi4, hU3⟩
  have HB4 := Lib.hid (HB3.out.trans (ho.below (B := w.heap.size) (fun k hk h => by have := HU2.out k h; omega) HB3.out.size))
  have HU3 := Lib.hid (show ∀ k, U3 k → w.heap.size ≤ k from fun k hk => (hU3 k hk).elim (HU2.out k) (fun h => Nat.le_trans HB3.out.size h))
  have HL := Lib.hid (hp.len hi4)
  have HI4 := Lib.hid hi4
  clear ho hi4 hU3 HT
  go_wp2_with fail
  refine HL.out.mono ?_
  rintro e w5 ⟨rfl, hb5⟩
  have HB5 := Lib.hid (HB4.out.trans (hb5.mono HB4.out.size))
  have hi5 := hp.keep HI4.out (OnlyS.of_below (S := fun _ => False) hb5 fun _ hk _ => hk) (fun _ _ e => e.elim)
  have HK := Lib.hid (hp.take 1 hi5 (by decide) (by decide))
  clear hb5 hi5
  rw [show ((⟨[voteM 1 2 5, voteM 1 2 5], []⟩ : Nt).at_ 1) = (voteM 1 2 5, 0) by decide] at HK
  go_wp2_with fail
  refine HK.out.mono ?_
  rintro e w6 ⟨⟨ve, vm, vg, us, rfl, hmf⟩, ho, -⟩
  have hm := hmf.has
  have HB6 := Lib.hid (HB5.out.trans (ho.below (B := w.heap.size) (fun k hk h => by have := HU3.out k h; omega) HB5.out.size))
  obtain ⟨a, ca, rfl⟩ := hm.els.form
  obtain ⟨b, cb, rfl⟩ := hm.ms.shape
  obtain ⟨d, cd, rfl⟩ := hm.gs.shape
  clear ho hm hmf HK
  simp only [mgC, voteM]
  go_wp2
  go_ret
  exact ⟨rfl, HB6.out.alloc HB6.out.size _⟩
end Go.Proofs.Ytgbhfolbkgibfaa

/- Layer 19: all that the landed net answers. -/
namespace Go.Proofs.Ytgbhfolbkgibfaa
set_option maxRecDepth 20000
open Go.RowKit Go.Maps BinMath NetMath
open MsgMath (Mg formedM putM getM)

theorem znlen (w : World) : Calls Try.prog 25 #[.pointer none] w fun e w' => e = .returned (.int .i64 0) ∧ w = w' := by
  go_enter Try.func25, Try.ntmps25
  go_wp2
  go_ret
  exact ⟨rfl, rfl⟩
theorem znhas (i : Int) (w : World) : Calls Try.prog 31 #[.pointer none, .int .i64 i] w fun e w' => e = .returned (.bool false) ∧ w = w' := by
  by_cases h0 : 0 ≤ i
  · go_enter Try.func31, Try.ntmps31
    go_wp2_with fail
    refine (znlen w).mono ?_
    rintro e w2 ⟨rfl, rfl⟩
    have h1 : ¬ i < 0 := by omega
    go_wp2
    go_ret
    exact ⟨by first | rfl | (show Ending.returned (.bool (decide (i < 0))) = _; rw [decide_eq_false (show ¬ i < 0 by omega)]), rfl⟩
  · go_enter Try.func31, Try.ntmps31
    go_wp2
    go_ret
    exact ⟨rfl, rfl⟩
theorem znat (i : Int) (w : World) : Calls Try.prog 15 #[.pointer none, .int .i64 i] w fun e w' => e = .returned (.tuple #[.agg zeroM, .int .i64 9]) ∧ Below w.heap.size w w' := by
  go_enter Try.func15, Try.ntmps15
  go_wp2_with fail
  refine (znhas i _).mono ?_
  rintro e w2 ⟨rfl, rfl⟩
  go_wp2_with (refine wpList_store_all rfl 36 (.tmp 4) (.tmp 10) rfl w.heap.size zeroM rfl rfl 36 zeroM (Blk.new w _ _) (mgM_info _ _ _ _) rfl zeroM_one ?_; intro w3 hb hos; (have HZ := Lib.hid hb); (have HB3 := Lib.hid (below_two ((Below.refl w.heap.size w).alloc (Nat.le_refl _) (.cells zeroM 36)) hos (fun k hk e => by omega) (by rw [World.size_alloc]; omega))); clear hb hos)
  exact bodyPost_ret (v := .tuple #[.agg zeroM, .int .i64 9]) (ret_msg rfl _ _ w.heap.size zeroM _ rfl rfl rfl HZ.out) rfl ⟨rfl, HB3.out⟩
theorem zntake (i : Int) (w : World) : Calls Try.prog 13 #[.pointer none, .int .i64 i] w fun e w' => e = .returned (.tuple #[.agg zeroM, .int .i64 9]) ∧ Below w.heap.size w w' := by
  obtain ⟨w0, hw0⟩ : ∃ w0, w0 = w.alloc (.cells zeroM 36) := ⟨_, rfl⟩
  have hb0 : Below w.heap.size w w0 := by rw [hw0]; exact (Below.refl _ _).alloc (Nat.le_refl _) _
  have HZ0 := Lib.hid (show Blk w0 w.heap.size 36 zeroM by rw [hw0]; exact Blk.new w _ _)
  have HB0 := Lib.hid hb0
  have HW0 := Lib.hid hw0
  clear hb0 hw0
  go_enter Try.func13, Try.ntmps13
  go_wp2_with fail
  have e0 : w0 = w.alloc (.cells #[.int .i64 0, .int .u64 0, .int .u64 0, .int .u64 0, .int .u64 0, .int .u64 0, .int .u64 0, .int .u64 0, .bool false, .slice none 0 0, .slice none 0 0, .slice none 0 0] 36) := HW0.out
  rw [← e0]
  refine (znat i w0).mono ?_
  rintro e w2 ⟨rfl, hb⟩
  clear e0 HW0
  have HB2 := Lib.hid (HB0.out.trans (hb.mono HB0.out.size))
  have HZ2 := Lib.hid (HZ0.out.keep hb)
  clear hb
  go_wp2_with (first
    | (refine wpList_store_all rfl 36 (.tmp 6) (.tmp 12) rfl w2.heap.size zeroM rfl rfl 36 zeroM (Blk.new w2 _ _) (mgM_info _ _ _ _) rfl zeroM_one ?_; intro w3 hb ho; (have HG3 := Lib.hid hb); (have HW3 := Lib.hid (show Below w2.heap.size w2 w3 from ((Below.refl _ _).alloc (Nat.le_refl _) _).trans (ho.below (fun k hk e => by have e : k = w2.heap.size := e; omega) (by simp)))); clear hb ho; (have HB3 := Lib.hid (HB2.out.trans (HW3.out.mono HB2.out.size))); (have HZ3 := Lib.hid (HZ2.out.keep HW3.out)))
    | (refine wpList_load_by rfl 36 (.tmp 6) rfl _ (.agg zeroM) rfl (Blk.loads (P := Try.prog) HG3.out 36 _ Try.underlying36 rfl (mgM_info _ _ _ _)) ?_)
    | (refine wpList_store_all rfl 36 (.tmp 4) (.tmp 27) rfl w.heap.size zeroM rfl rfl 36 zeroM HZ3.out (mgM_info _ _ _ _) rfl zeroM_one ?_; intro w6 hb ho; (have HZ6 := Lib.hid hb); (have HO6 := Lib.hid ho); clear hb ho))
  exact bodyPost_ret (v := .tuple #[.agg zeroM, .int .i64 9]) (ret_msg rfl _ _ w.heap.size zeroM _ rfl rfl rfl HZ6.out) rfl ⟨rfl, HB3.out.trans (HO6.out.below (fun k hk e => by have e : k = w.heap.size := e; omega) HB3.out.size)⟩
theorem zntwice (i : Int) (w : World) : Calls Try.prog 17 #[.pointer none, .int .i64 i] w fun e w' => e = .returned (.int .i64 9) ∧ Below w.heap.size w w' := by
  go_enter Try.func17, Try.ntmps17
  go_wp2_with fail
  refine (znhas i _).mono ?_
  rintro e w2 ⟨rfl, rfl⟩
  go_wp2
  go_ret
  exact ⟨rfl, Below.refl _ _⟩
theorem znsend (m : Mg) (ve vm vg : Value) (us : List EE) (w : World) (_ : MHas w m ve vm vg us) : Calls Try.prog 10 #[.pointer none, .agg (mgC m ve vm vg)] w fun e w' => e = .returned (.int .i64 6) ∧ Below w.heap.size w w' := by
  have hb : Below w.heap.size w (w.alloc (.cells (mgC m ve vm vg) 36)) := (Below.refl _ _).alloc (Nat.le_refl _) _
  have HB := Lib.hid hb
  clear hb
  go_enter Try.func10, Try.ntmps10
  go_wp2
  go_ret
  exact ⟨rfl, HB.out⟩
theorem znblock (a b : Nat) (yes : Bool) (w : World) : Calls Try.prog 19 #[.pointer none, .int .u64 (a : Int), .int .u64 (b : Int), .bool yes] w fun e w' => e = .returned (.tuple #[]) ∧ Below w.heap.size w w' := by
  go_enter Try.func19, Try.ntmps19
  go_wp2
  go_end0
  exact ⟨rfl, Below.refl _ _⟩
theorem znblocked (a b : Nat) (w : World) : Calls Try.prog 23 #[.pointer none, .int .u64 (a : Int), .int .u64 (b : Int)] w fun e w' => e = .returned (.bool true) ∧ Below w.heap.size w w' := by
  go_enter Try.func23, Try.ntmps23
  go_wp2
  go_ret
  exact ⟨rfl, Below.refl _ _⟩

def netProg : NetProg where
  Is := IsNet
  lt := fun ⟨_, _, _, h⟩ => h.ul
  keep := fun ⟨m, v, ts, h⟩ ho hV => ⟨m, v, ts, h.keep ho hV⟩
  new_ := nnew_any
  send := fun mg ve vm vg us ⟨_, _, _, h⟩ hm _ => nsend_any h mg ve vm vg us hm
  len := fun ⟨_, _, _, h⟩ => (nlen_any h).mono fun e w' ⟨h1, h2⟩ => by subst h2; exact ⟨by rw [h.len]; exact h1, Below.refl _ _⟩
  at_ := fun i ⟨_, _, _, h⟩ _ _ => nat_any h i
  take := fun i ⟨_, _, _, h⟩ _ _ => ntake_any h i
  twice := fun i ⟨_, _, _, h⟩ _ _ => ntwice_any h i
  block := fun a b yes ⟨_, _, _, h⟩ ha hb hl => nblock_any h a b yes ha hb hl
  blocked := fun a b ⟨_, _, _, h⟩ ha hb _ => nblocked_any h a b ha hb
  nSend := znsend
  nLen := fun w => (znlen w).mono fun _ _ ⟨h1, h2⟩ => by subst h2; exact ⟨h1, Below.refl _ _⟩
  nAt := znat
  nTake := zntake
  nTwice := zntwice
  nBlock := znblock
  nBlocked := znblocked
end Go.Proofs.Ytgbhfolbkgibfaa

/- Layer 19's reference: ways, Blocked. -/
namespace Go.Proofs.Ytgbhfolbkgibfaa
set_option maxRecDepth 20000
open Go.RowKit BinMath NetMath

/-- A way's two cells. -/
def wayC (x : Nat × Nat) : List Value := [.int .u64 (x.1 : Int), .int .u64 (x.2 : Int)]

/-- Ways, wherever they lie. -/
def Ways (w : World) (v : Value) (ws : List (Nat × Nat)) : Prop :=
  (v = .slice none 0 0 ∧ ws = []) ∨
  ∃ ad cap, v = .slice (some ad) ws.length cap ∧ ws.length ≤ cap ∧ ∀ (i : Nat) (x : Nat × Nat), ws[i]? = some x → w.cell? (ad.add (i * 2)) = some (.int .u64 (x.1 : Int)) ∧ w.cell? ⟨(ad.add (i * 2)).block, (ad.add (i * 2)).off + 1, none⟩ = some (.int .u64 (x.2 : Int))

theorem Ways.form {w : World} {v : Value} {ws : List (Nat × Nat)} (h : Ways w v ws) : ∃ a c, v = .slice a ws.length c := by
  rcases h with ⟨rfl, rfl⟩ | ⟨ad, cap, rfl, _⟩
  · exact ⟨_, _, rfl⟩
  · exact ⟨_, _, rfl⟩
theorem Ways.below {w w' : World} {v : Value} {ws : List (Nat × Nat)} (h : Ways w v ws) {B : Nat} (hB : w.heap.size ≤ B) (hb : Below B w w') : Ways w' v ws := by
  rcases h with h | ⟨ad, cap, hv, hl, hc⟩
  · exact .inl h
  · refine .inr ⟨ad, cap, hv, hl, fun i x hx => ?_⟩
    obtain ⟨h1, h2⟩ := hc i x hx
    have hk : ∀ {p : Addr} {u : Value}, w.cell? p = some u → w'.cell? p = some u := fun {p u} hp => by rw [hb.cell (Nat.lt_of_lt_of_le (World.block_lt_of_cell? w _ hp) hB)]; exact hp
    exact ⟨hk h1, hk h2⟩
theorem Ways.load {w : World} {a : Option Addr} {n c : Nat} {ws : List (Nat × Nat)} (h : Ways w (.slice a n c) ws) {i : Nat} {x : Nat × Nat} (hx : ws[i]? = some x) : ∃ ad : Addr, a = some ad ∧ w.cell? (ad.add (i * 2)) = some (.int .u64 (x.1 : Int)) ∧ w.cell? ⟨(ad.add (i * 2)).block, (ad.add (i * 2)).off + 1, none⟩ = some (.int .u64 (x.2 : Int)) := by
  rcases h with ⟨-, rfl⟩ | ⟨ad, cap, hv, -, hc⟩
  · simp at hx
  · cases hv
    exact ⟨ad, rfl, hc i x hx⟩

set_option maxHeartbeats 1000000 in
theorem refBlocked_any (R : Nat) (vL vW : Value) (ws : List (Nat × Nat)) (a b : Nat) (w : World) (hR : Blk w R 30 #[vL, vW]) (hW : Ways w vW ws) (hl : ws.length ≤ 140737488351232) :
    Calls Try.prog 24 #[.pointer (some ⟨R, 0, none⟩), .int .u64 (a : Int), .int .u64 (b : Int)] w fun e w' => e = .returned (.bool (decide ((a, b) ∈ ws))) ∧ w' = w := by
  obtain ⟨sa, c, rfl⟩ := hW.form
  obtain ⟨n, hn⟩ : ∃ n, n = ws.length := ⟨_, rfl⟩
  obtain ⟨q, hq⟩ : ∃ q, q = decide ((a, b) ∈ ws) := ⟨_, rfl⟩
  rw [← hn] at hW hl hR
  rw [← hq]
  have hc1 : w.cell? ⟨R, 1, none⟩ = some (.slice sa n c) := by rw [hR.cell]; rfl
  have HW := Lib.hid hW
  have HN := Lib.hid hn
  have HQ := Lib.hid hq
  clear hn hq hW hR
  go_enter Try.func24, Try.ntmps24
  go_wp2
  go_loop [7] (fun s7 => ∃ i : Nat, i ≤ n ∧ s7 = .int .i64 (i : Int) ∧ ∀ (j : Nat) (x : Nat × Nat), j < i → ws[j]? = some x → x ≠ (a, b)) (fun s7 => n - (intOf s7).toNat)
  case atStart => exact ⟨0, by omega, rfl, fun j _ h => absurd h (by omega)⟩
  case round =>
    obtain ⟨i, hi, rfl, hr⟩ := hrel
    have HR := Lib.hid hr
    clear hr
    by_cases hlt : i < n
    · obtain ⟨x, hx⟩ : ∃ x, ws[i]? = some x := ⟨ws[i]'(by have := HN.out; omega), List.getElem?_eq_getElem _⟩
      obtain ⟨ad, rfl, h1, h2⟩ := HW.out.load hx
      have HX := Lib.hid hx
      obtain ⟨p, r⟩ := x
      have i0 : (0 : Int) ≤ (i : Int) := Int.natCast_nonneg _
      have i1 : (i : Int) < (n : Int) := by omega
      clear hx
      simp only at h1 h2
      have hnext : (p, r) ≠ (a, b) → ∀ (j : Nat) (x : Nat × Nat), j < i + 1 → ws[j]? = some x → x ≠ (a, b) := fun hne j y hj hy => by
        by_cases e : j = i
        · subst e
          rw [HX.out] at hy
          cases hy
          exact hne
        · exact HR.out j y (by omega) hy
      have HNx := Lib.hid hnext
      clear hnext
      by_cases hp : p = a
      · have d1 : ((p : Int) == (a : Int)) = true := by rw [hp]; exact beq_self_eq_true _
        by_cases hb : r = b
        · have d2 : ((r : Int) == (b : Int)) = true := by rw [hb]; exact beq_self_eq_true _
          have HM := Lib.hid (show (a, b) ∈ ws by rw [← hp, ← hb]; exact List.mem_of_getElem? HX.out)
          clear hp hb
          go_wp2
          go_ret
          rw [HQ.out, decide_eq_true HM.out]
          exact ⟨rfl, rfl⟩
        · have d2 : ((r : Int) == (b : Int)) = false := beq_false_of_ne (by omega)
          have HM := Lib.hid (HNx.out fun e => hb (Prod.mk.inj e).2)
          clear hp hb
          go_wp2
          go_round
          case rel => exact ⟨i + 1, by omega, by go_num, HM.out⟩
          case measure => simp [intOf]; omega
      · have d1 : ((p : Int) == (a : Int)) = false := beq_false_of_ne (by omega)
        have HM := Lib.hid (HNx.out fun e => hp (Prod.mk.inj e).1)
        clear hp
        go_wp2
        go_round
        case rel => exact ⟨i + 1, by omega, by go_num, HM.out⟩
        case measure => simp [intOf]; omega
    · go_wp2
      go_ret
      rw [HQ.out, decide_eq_false (fun hm => by
        obtain ⟨j, hj⟩ := List.mem_iff_getElem?.1 hm
        exact HR.out j _ (by have := (List.getElem?_eq_some_iff.1 hj).1; have := HN.out; omega) hj rfl)]
      exact ⟨rfl, rfl⟩
end Go.Proofs.Ytgbhfolbkgibfaa

