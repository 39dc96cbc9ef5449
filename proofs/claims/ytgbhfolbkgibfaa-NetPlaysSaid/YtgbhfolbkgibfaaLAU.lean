/- Joined: MsgWalkAny, MsgWriter. -/
import Derived.Test.YtgbhfolbkgibfaaMsgWalkL
import Derived.Test.YtgbhfolbkgibfaaLAR
import Derived.Test.YtgbhfolbkgibfaaCmdPutL
import Derived.Test.YtgbhfolbkgibfaaLAD
import Derived.Test.YtgbhfolbkgibfaaLAH
/- Layer 18: the walk where the kind is none, or the first byte isn't there; all ways in one. -/
namespace Go.Proofs.Ytgbhfolbkgibfaa
set_option maxRecDepth 20000
open Go.RowKit Go.Maps BinMath CmdMath
open MsgMath (Mg Hand)
section
variable {H : Hand} {t : TypeId} {v r : Value} {fo fn ft fe : FuncId} {G B : Nat} {z : List UInt8 → Nat} {I : World → (Nat → Prop) → List UInt8 → Prop} {F : Prop}

theorem WS.lost {U U' X : Nat → Prop} {l l' : List UInt8} {w wr w2 : World} {M R N c : Nat} {mc : Array Value} {src : World → Prop} {res : Except Nat (Mg × List UInt8)} (h : WS z I U X G B l w M R mc src N U' l' wr)
    (hr : res = .error c) (ho : OnlyS U' wr w2) (hc : c ≠ 0) : HEnd 1000000 z I U l w res (toldMsg F X B) (.panicked (gaveUp (c : Int))) w2 :=
  HEnd.bad hr (h.only.then ho (fun k hk hu => (h.sub k hu).resolve_right (by omega))) hc

set_option maxHeartbeats 4000000 in
set_option maxRecDepth 100000 in
theorem walk_err (hp : HandP H t v r fo fn ft fe G B z I F) {w : World} {U : Nat → Prop} {l : List UInt8} (X : Nat → Prop) (m : Mg) (ve vm vg : Value) (us : List EE) (hI : I w U l) (hX : ∀ k, X k → k < w.heap.size) (hm : Stay w (fun k => U k ∨ X k) B (fun W => MHas W m ve vm vg us)) (hl : z l ≤ 100000000) {c : Nat} (hr0 : H.octet (m.k % 256).toNat l = .error c) :
    Calls Try.prog 37 #[.iface t v, .agg (mgC m ve vm vg)] w (HEnd 1000000 z I U l w (MsgMath.walkH H m l) (toldMsg F X B)) := by
  obtain ⟨a, ca, rfl⟩ := hm.now.els.form
  obtain ⟨b, cb, rfl⟩ := hm.now.ms.shape
  obtain ⟨d, cd, rfl⟩ := hm.now.gs.shape
  obtain ⟨na, hna⟩ : ∃ n, n = us.length := ⟨_, rfl⟩
  obtain ⟨nb, hnb⟩ : ∃ n, n = m.m.length := ⟨_, rfl⟩
  obtain ⟨nd, hnd⟩ : ∃ n, n = m.g.length := ⟨_, rfl⟩
  rw [← hna, ← hnb, ← hnd] at hm ⊢
  have HL := Lib.hid hl
  have mo := hp.mo
  have eo := hp.eo
  obtain ⟨w0, hw0⟩ : ∃ w0, w0 = (w.alloc (.cells (mgC m (.slice a na ca) (.slice b nb cb) (.slice d nd cd)) 36)).alloc (.cells zeroM 36) := ⟨_, rfl⟩
  have HS0 := Lib.hid (walkStart hp hI hX hm hw0)
  have HW0 := Lib.hid hw0
  obtain ⟨c0, hc0⟩ : ∃ c0, c0 = (m.k % 256).toNat := ⟨_, rfl⟩
  have hcv := conv_kind m.k c0 hc0
  have hc256 : c0 < 256 := by omega
  rw [← hc0] at hr0
  have HR0 := Lib.hid hr0
  have HE := Lib.hid (show MsgMath.walkH H m l = .error c by rw [MsgMath.walkH, ← hc0]; exact MsgMath.bindP_err hr0)
  clear hna hnb hnd hI hX hm hl hw0 hr0 hc0
  simp only [mgC]
  go_enter Try.func37, Try.ntmps37
  go_wp2_with fail
  have e0 : w0 = (w.alloc (.cells #[.int .i64 m.k, .int .u64 (m.f : Int), .int .u64 (m.o : Int), .int .u64 (m.t : Int), .int .u64 (m.i : Int), .int .u64 (m.l : Int), .int .u64 (m.c : Int), .int .u64 (m.s : Int), .bool m.y, .slice a na ca, .slice b nb cb, .slice d nd cd] 36)).alloc (.cells #[.int .i64 0, .int .u64 0, .int .u64 0, .int .u64 0, .int .u64 0, .int .u64 0, .int .u64 0, .int .u64 0, .bool false, .slice none 0 0, .slice none 0 0, .slice none 0 0] 36) := HW0.out
  rw [← e0]
  clear e0 HW0
  refine (hp.octet _ HS0.out.hand hc256 (by have := HS0.out.ll; have := HL.out; omega)).mono ?_
  intro e w1 h
  obtain ⟨ho, hc, rfl⟩ := h.err HR0.out
  exact ⟨rfl, HS0.out.lost HE.out ho hc⟩

set_option maxHeartbeats 4000000 in
set_option maxRecDepth 100000 in
theorem walk_out (hp : HandP H t v r fo fn ft fe G B z I F) {w : World} {U : Nat → Prop} {l q0 : List UInt8} (X : Nat → Prop) (m : Mg) (ve vm vg : Value) (us : List EE) (hI : I w U l) (hX : ∀ k, X k → k < w.heap.size) (hm : Stay w (fun k => U k ∨ X k) B (fun W => MHas W m ve vm vg us)) (hl : z l ≤ 100000000) {k0 : Nat} (hr0 : H.octet (m.k % 256).toNat l = .ok (k0, q0)) (hk : ¬ (1 ≤ k0 ∧ k0 ≤ 5)) :
    Calls Try.prog 37 #[.iface t v, .agg (mgC m ve vm vg)] w (HEnd 1000000 z I U l w (MsgMath.walkH H m l) (toldMsg F X B)) := by
  obtain ⟨a, ca, rfl⟩ := hm.now.els.form
  obtain ⟨b, cb, rfl⟩ := hm.now.ms.shape
  obtain ⟨d, cd, rfl⟩ := hm.now.gs.shape
  obtain ⟨na, hna⟩ : ∃ n, n = us.length := ⟨_, rfl⟩
  obtain ⟨nb, hnb⟩ : ∃ n, n = m.m.length := ⟨_, rfl⟩
  obtain ⟨nd, hnd⟩ : ∃ n, n = m.g.length := ⟨_, rfl⟩
  rw [← hna, ← hnb, ← hnd] at hm ⊢
  have HL := Lib.hid hl
  have mo := hp.mo
  have eo := hp.eo
  obtain ⟨w0, hw0⟩ : ∃ w0, w0 = (w.alloc (.cells (mgC m (.slice a na ca) (.slice b nb cb) (.slice d nd cd)) 36)).alloc (.cells zeroM 36) := ⟨_, rfl⟩
  have HS0 := Lib.hid (walkStart hp hI hX hm hw0)
  have HW0 := Lib.hid hw0
  obtain ⟨c0, hc0⟩ : ∃ c0, c0 = (m.k % 256).toNat := ⟨_, rfl⟩
  have hcv := conv_kind m.k c0 hc0
  have hc256 : c0 < 256 := by omega
  rw [← hc0] at hr0
  have HR0 := Lib.hid hr0
  have HE := Lib.hid (show MsgMath.walkH H m l = .error 3 by rw [MsgMath.walkH, ← hc0, MsgMath.bindP_ok hr0, if_neg hk]; rfl)
  clear hna hnb hnd hI hX hm hl hw0 hr0 hc0
  simp only [mgC]
  go_enter Try.func37, Try.ntmps37
  go_wp2_with fail
  have e0 : w0 = (w.alloc (.cells #[.int .i64 m.k, .int .u64 (m.f : Int), .int .u64 (m.o : Int), .int .u64 (m.t : Int), .int .u64 (m.i : Int), .int .u64 (m.l : Int), .int .u64 (m.c : Int), .int .u64 (m.s : Int), .bool m.y, .slice a na ca, .slice b nb cb, .slice d nd cd] 36)).alloc (.cells #[.int .i64 0, .int .u64 0, .int .u64 0, .int .u64 0, .int .u64 0, .int .u64 0, .int .u64 0, .int .u64 0, .bool false, .slice none 0 0, .slice none 0 0, .slice none 0 0] 36) := HW0.out
  rw [← e0]
  clear e0 HW0
  refine (hp.octet _ HS0.out.hand hc256 (by have := HS0.out.ll; have := HL.out; omega)).mono ?_
  intro e w1 h
  obtain ⟨y, U1, rfl, ho, ⟨rfl, hk256⟩, hI1, hU1, hq⟩ := h.ok HR0.out
  have HS1 := Lib.hid (HS0.out.call ho hI1 hU1 hq)
  have hcb := conv_byte k0 hk256
  clear h ho hI1 hU1 hq HS0 HR0 hcv hc256
  have d1 : k0 ≠ 0 → decide ((1 : Int) ≤ (k0 : Int)) = true := fun h => decide_eq_true (by omega)
  have d5 : k0 ≠ 0 → decide ((k0 : Int) ≤ 5) = false := fun h => decide_eq_false (by omega)
  by_cases hz : k0 = 0
  · subst hz
    have hcb : ∀ W, (convert 5 3 (.int .u8 0)).run Try.prog W = .ok (.int .i64 0) W := hcb
    clear hk d1 d5 hk256
    go_wp2_with (refine wpList_store_all rfl 36 (.tmp 5) (.tmp 12) rfl w1.heap.size #[.int .i64 0, .int .u64 0, .int .u64 0, .int .u64 0, .int .u64 0, .int .u64 0, .int .u64 0, .int .u64 0, .bool false, .slice none 0 0, .slice none 0 0, .slice none 0 0] rfl rfl 36 zeroM (Blk.new w1 36 zeroM) (by kernel_rfl) rfl (by simp [Value.oneCell']) ?_; intro w2 hb ho; (have HA0 := Lib.hid (HS1.out.told hp hb ho)); (have k0 : w2.cell? ⟨w1.heap.size, 0, none⟩ = some (.int .i64 0) := by rw [hb.cell]; rfl); clear hb ho)
    refine (mask_no 3 (by decide) _).mono ?_
    rintro e w3 ⟨rfl, rfl⟩
    exact ⟨rfl, HEnd.bad HE.out HA0.out.only (by decide)⟩
  · have d1 := d1 hz
    have d5 := d5 hz
    clear hk hz hk256
    go_wp2_with (refine wpList_store_all rfl 36 (.tmp 5) (.tmp 12) rfl w1.heap.size #[.int .i64 (k0 : Int), .int .u64 0, .int .u64 0, .int .u64 0, .int .u64 0, .int .u64 0, .int .u64 0, .int .u64 0, .bool false, .slice none 0 0, .slice none 0 0, .slice none 0 0] rfl rfl 36 zeroM (Blk.new w1 36 zeroM) (by kernel_rfl) rfl (by simp [Value.oneCell']) ?_; intro w2 hb ho; (have HA0 := Lib.hid (HS1.out.told hp hb ho)); (have kc : w2.cell? ⟨w1.heap.size, 0, none⟩ = some (.int .i64 (k0 : Int)) := by rw [hb.cell]; rfl); clear hb ho)
    refine (mask_no 3 (by decide) _).mono ?_
    rintro e w3 ⟨rfl, rfl⟩
    exact ⟨rfl, HEnd.bad HE.out HA0.out.only (by decide)⟩

theorem walk_any (hp : HandP H t v r fo fn ft fe G B z I F) {w : World} {U : Nat → Prop} {l : List UInt8} (X : Nat → Prop) (m : Mg) (ve vm vg : Value) (us : List EE) (hI : I w U l) (hX : ∀ k, X k → k < w.heap.size) (hm : Stay w (fun k => U k ∨ X k) B (fun W => MHas W m ve vm vg us)) (hl : z l ≤ 100000000) :
    Calls Try.prog 37 #[.iface t v, .agg (mgC m ve vm vg)] w (HEnd 1000000 z I U l w (MsgMath.walkH H m l) (toldMsg F X B)) := by
  cases hr0 : H.octet (m.k % 256).toNat l with
  | error c => exact walk_err hp X m ve vm vg us hI hX hm hl hr0
  | ok p =>
    obtain ⟨k0, q0⟩ := p
    by_cases hk : 1 ≤ k0 ∧ k0 ≤ 5
    · rcases (show k0 = 1 ∨ k0 = 2 ∨ k0 = 3 ∨ k0 = 4 ∨ k0 = 5 by omega) with rfl | rfl | rfl | rfl | rfl
      · exact walk_1 hp X m ve vm vg us hI hX hm hl hr0
      · exact walk_2 hp X m ve vm vg us hI hX hm hl hr0
      · exact walk_3 hp X m ve vm vg us hI hX hm hl hr0
      · exact walk_4 hp X m ve vm vg us hI hX hm hl hr0
      · exact walk_5 hp X m ve vm vg us hI hX hm hl hr0
    · exact walk_out hp X m ve vm vg us hI hX hm hl hr0 hk
end
end Go.Proofs.Ytgbhfolbkgibfaa

/- Layer 18: the hand that lays down, in memory. -/
namespace Go.Proofs.Ytgbhfolbkgibfaa
set_option maxRecDepth 20000
open Go.RowKit Go.Maps BinMath CmdMath Reg
open MsgMath (Mg Hand wrH)

/-- append(v, x...): the row that was there is told, too. -/
theorem append_keep {w : World} {B : Nat} {v x : Value} {l l' : List UInt8} (hB : B ≤ w.heap.size) (hown : Row w B v l) (hx : Bys w x l') (hlen : l.length + l'.length ≤ 140737488355328) :
    ∃ v' w', (Builtin.append_ #[34, 34] 34 #[v, x]).run Try.prog w = .ok v' w' ∧ Row w' B v' (l ++ l') ∧ Row w' B v l ∧ OnlyS (fun k => v.ownBlock = some k) w w' ∧ (∀ k, v'.ownBlock = some k → v.ownBlock = some k ∨ w.heap.size ≤ k) := by
  obtain ⟨i0, hi, hz0, hz1, hz2⟩ := info_parts info_byte
  rcases hx with ⟨rfl, rfl⟩ | ⟨ad, cap', rfl, hc⟩
  · exact ⟨v, w, run_append_owned_none (P := Try.prog) (w := w) B _ _ _ i0 1 Try.underlying34 hi v l.length (l.map bv) hown, by simpa using hown, hown, OnlyS.refl _ _, fun k hk => .inl hk⟩
  · have hown0 : w.ownsRow B 5 1 v l.length (l.map bv) := hown
    obtain ⟨n, hn⟩ : ∃ n, n = l.length := ⟨_, rfl⟩
    obtain ⟨m, hm⟩ : ∃ m, m = l'.length := ⟨_, rfl⟩
    obtain ⟨xs, hxs⟩ : ∃ xs, xs = l.map bv := ⟨_, rfl⟩
    obtain ⟨news, hnw⟩ : ∃ news, news = l'.map bv := ⟨_, rfl⟩
    have hcl : news.length = m * i0.size := by rw [hnw, hz1, List.length_map, hm, Nat.mul_one]
    have hnews : ∀ j u, news[j]? = some u → w.cell? (ad.add j) = some u := by rw [hnw]; exact cells_bys hc
    have h1 : ∀ u ∈ news, u.oneCell' = true := by rw [hnw]; exact one_bv l'
    have hb1 : i0.bytes = 1 := hz2
    rw [← hn, ← hxs] at hown0
    have key : ∃ v' w', (Builtin.append_ #[34, 34] 34 #[v, .slice (some ad) m cap']).run Try.prog w = .ok v' w' ∧ w'.ownsRow B 5 1 v' (n + m) (xs ++ news) ∧ w'.ownsRow B 5 1 v n xs ∧ OnlyS (fun k => v.ownBlock = some k) w w' ∧ (∀ k, v'.ownBlock = some k → v.ownBlock = some k ∨ w.heap.size ≤ k) := by
      have hnm : n + m ≤ 140737488355328 := by omega
      have hlen2 : (xs ++ news).length = (n + m) * 1 := by rw [List.length_append, hown0.1, hcl, hz1]; omega
      have hnew : ∀ (o : Obj), OnlyS (fun k => v.ownBlock = some k) w (w.drew.alloc o) := fun o => ⟨rfl, rfl, rfl, by simp, fun k hk _ => Below.heap_alloc w.drew _ k hk⟩
      have grown : ∀ (old : Nat), old < n + m → (w.drew.alloc (.cells (xs.toArray ++ news.toArray ++ Builtin.zeroCells (Value.int .u8 0).cells (grownCap w (n + m) old 5 - (n + m))) 5)).ownsRow B 5 1
          (.slice (some ⟨w.heap.size, 0, none⟩) (n + m) (grownCap w (n + m) old 5)) (n + m) (xs ++ news) := by
        intro old ho
        have hge := grownCap_ge w (n + m) old 5
        have hcm : grownCap w (n + m) old 5 ≤ maxLen := grownCap_le_maxLen w (n + m) old 5 (by unfold maxLen; omega)
        refine ⟨hlen2, .inr ⟨w.heap.size, _, _, rfl, hB, heap_alloc_new w.drew _, hge, hcm, ?_, ?_⟩⟩
        · have hx1 : xs.length = n := by rw [hown0.1]; omega
          have hx2 : news.length = m := by rw [hcl, hz1]; omega
          simp only [Array.size_append, List.size_toArray, size_zeroCells, hx1, hx2]
          have : (Value.int IntKind.u8 0).cells.size = 1 := rfl
          rw [this]
          omega
        · simp only [Array.toList_append, List.append_assoc]
          rw [← List.append_assoc, ← hlen2]
          exact List.take_left
      rcases hown0.2 with ⟨rfl, hn0⟩ | ⟨g, cap, cur, rfl, hbg, hg, hnc, hcm, hcs, htake⟩
      · have hx0 : xs = [] := List.eq_nil_of_length_eq_zero (by rw [hown0.1, hn0])
        rw [hx0, hn0] at hown0 grown ⊢
        by_cases h0 : m = 0
        · have hn2 : news = [] := List.eq_nil_of_length_eq_zero (by rw [hcl, h0, Nat.zero_mul])
          rw [hn2, h0]
          refine ⟨.slice none 0 0, w, ?_, World.ownsRow_nil w B _ _, World.ownsRow_nil w B _ _, OnlyS.refl _ _, fun k hk => .inl hk⟩
          simp [Builtin.append_, run_underlying (P := Try.prog) Try.underlying34, sizeOf, typeInfo, hi, Builtin.lenOf, Builtin.firstCells, loadCells, loadCellsFrom]
        · have hr := run_append_nil (P := Try.prog) w 34 34 5 i0 (.int .u8 0) Try.underlying34 hi hz0 ad m cap' news hcl hnews (by omega) (by omega) (by rw [hb1]; omega)
          have hgr := grown 0 (by omega)
          simp only [Nat.zero_add, List.nil_append, Array.empty_append] at hgr ⊢
          exact ⟨_, _, hr, hgr, World.ownsRow_nil _ _ _ _, hnew _, fun k hk => .inr (by simp [Value.ownBlock] at hk; omega)⟩
      · by_cases hroom : n + m ≤ cap
        · have hfit : n * i0.size + news.length ≤ cur.size := by rw [hcl, hcs, hz1]; omega
          have hr := run_append_room (P := Try.prog) w 34 34 5 i0 Try.underlying34 hi g n cap cur hg ad m cap' news hcl hnews h1 hroom hfit
          rw [hz1] at hr
          have hnl : news.length = m := by rw [hcl, hz1]; omega
          have hcz : cur.size = cap := by rw [hcs]; omega
          have hsz2 : (cur.toList.take (n * 1) ++ news ++ cur.toList.drop (n * 1 + news.length)).toArray.size = cap * 1 := by
            simp only [List.size_toArray, List.length_append, List.length_take, List.length_drop, Array.length_toList, hnl, hcz]
            omega
          refine ⟨_, _, hr, ⟨hlen2, .inr ⟨g, cap, _, rfl, hbg, setRow_heap w g cur _ _ _ hg, hroom, hcm, hsz2, ?_⟩⟩, ⟨hown0.1, .inr ⟨g, cap, _, rfl, hbg, setRow_heap w g cur _ _ _ hg, hnc, hcm, hsz2, ?_⟩⟩, ⟨rfl, rfl, rfl, by simp, fun k _ hk => setRow_other w g k _ fun e => hk (by simp [Value.ownBlock, e])⟩, fun k hk => .inl hk⟩
          · rw [htake, ← hlen2]
            exact List.take_left
          · rw [htake, List.append_assoc, ← hown0.1]
            exact List.take_left
        · have holds : ∀ j u, xs[j]? = some u → w.cell? ((⟨g, 0, none⟩ : Addr).add j) = some u := hown0.cells (g := g) rfl
          have hr := run_append_grow (P := Try.prog) w 34 34 5 i0 (.int .u8 0) Try.underlying34 hi hz0 ⟨g, 0, none⟩ n cap xs (by rw [hown0.1, hz1]) holds ad m cap' news hcl hnews (by omega) (by omega) (growslice_fits (by omega) (by rw [hb1]; omega))
          exact ⟨_, _, hr, grown cap (by omega), ownsRow_to hown0 fun k hk => Below.heap_alloc w.drew _ k (World.ownsRow.lt hown0 k hk).2, hnew _, fun k hk => .inr (by simp [Value.ownBlock] at hk; omega)⟩
    obtain ⟨v', w', hr, k1, k2, k3, k4⟩ := key
    rw [hm] at hr
    refine ⟨v', w', hr, ?_, ?_, k3, k4⟩
    · unfold Row
      rw [List.length_append, List.map_append, ← hn, ← hm, ← hxs, ← hnw]
      exact k1
    · unfold Row
      rw [← hn, ← hxs]
      exact k2

/-- The writer at L, with l laid down; its buffer lies from Bw on. -/
def WrI (L Bw : Nat) (w : World) (U : Nat → Prop) (l : List UInt8) : Prop :=
  ∃ v, Blk w L 79 #[v] ∧ Row w Bw v l ∧ (∀ k, U k ↔ k = L ∨ v.ownBlock = some k) ∧ L < Bw ∧ Bw ≤ w.heap.size

theorem WrI.keep {L Bw : Nat} {w w' : World} {U V : Nat → Prop} {l : List UInt8} (h : WrI L Bw w U l) (ho : OnlyS V w w') (hV : ∀ k, k < w.heap.size → V k → ¬ U k) : WrI L Bw w' U l := by
  obtain ⟨v, h1, h2, h3, h4, h5⟩ := h
  have hn : ∀ k, k < w.heap.size → U k → ¬ V k := fun k hk hu hv => hV k hk hv hu
  exact ⟨v, h1.onlyS ho (hn _ h1.lt ((h3 _).2 (.inl rfl))), row_to h2 (fun k hk => ho.block k (World.ownsRow.lt h2 k hk).2 (hn _ (World.ownsRow.lt h2 k hk).2 ((h3 k).2 (.inr hk)))), h3, h4, Nat.le_trans h5 ho.size⟩
theorem WrI.lt {L Bw : Nat} {w : World} {U : Nat → Prop} {l : List UInt8} (h : WrI L Bw w U l) (k : Nat) (hk : U k) : k < w.heap.size := by
  obtain ⟨v, h1, h2, h3, h4, h5⟩ := h
  rcases (h3 k).1 hk with rfl | hk
  · exact h1.lt
  · exact (World.ownsRow.lt h2 k hk).2

/-- In the midst of an append to the writer. -/
def WrG (L Bw : Nat) (w : World) (v : Value) (l : List UInt8) (W : World) : Prop := OnlyS (fun k => v.ownBlock = some k) w W ∧ Row W Bw v l ∧ Blk W L 79 #[v]
theorem WrG.below {L Bw : Nat} {w W W' : World} {v : Value} {l : List UInt8} (h : WrG L Bw w v l W) (hb : Below W.heap.size W W') : WrG L Bw w v l W' :=
  ⟨h.1.trans (OnlyS.of_below hb fun _ hk _ => hk), h.2.1.below hb, h.2.2.keep hb⟩
/-- What the append gives. -/
def wrNew (Bw : Nat) (w : World) (v : Value) (l : List UInt8) : Fact := .sat (fun x W => Row W Bw x l ∧ (∀ k, x.ownBlock = some k → v.ownBlock = some k ∨ w.heap.size ≤ k) ∧ w.heap.size ≤ W.heap.size) fun _ _ _ ⟨h1, h2, h3⟩ hb => ⟨h1.below hb, h2, Nat.le_trans h3 hb.size⟩

theorem ask_wrote {ops : Array Oper} {tab : List (List Nat)} {fin : List Tmp} {f : Tmp → Fact} {i : Nat} {o : Oper} {L Bw : Nat} {w : World} {v : Value} {l l' : List UInt8} (hg : guardOk ops f o) (hst : stillBut ops tab fin f i o = true) (s t : Operand) (B' : Nat) (hty : o.type = 34)
    (ho : o.op = .call { callee := .builtin .append, args := #[s, t], argTypes := #[34, 34] }) (hs : opFact f s = .is v) (ht : opFact f t = .row B' l') (hl : l.length + l'.length ≤ 140737488355328)
    (hLv : ¬ v.ownBlock = some L) (hBw : Bw ≤ w.heap.size) (hd : ∀ k, o.dst = some k → f k = wrNew Bw w v (l ++ l')) : Asked Try.prog ops tab fin (WrG L Bw w v l) f i o := by
  refine ask_write hg hst fun x W hW hk => ?_
  have e1 := evalBy_opVal hk s (by rw [ho]; simp [Op.operands, Call.operands]) hs
  have h2 := told_op hk t (by rw [ho]; simp [Op.operands, Call.operands])
  rw [ht] at h2
  have h2 : Row W B' (evalBy x t) l' := h2
  obtain ⟨v', w', hr, k1, k2, k3, k4⟩ := append_keep (Nat.le_trans hBw hW.1.size) hW.2.1 h2.bys hl
  refine gives_value (v := v') (w' := w') ?_ ⟨⟨hW.1.trans k3, k2, hW.2.2.onlyS k3 hLv⟩, fun k hk => ?_⟩
  · simp [execOp, ho, resolve, invoke, builtin, hty, e1, hr, Result.andThen]
  · rw [hd k hk]
    exact ⟨k1, fun k hk => (k4 k hk).imp id (Nat.le_trans hW.1.size), Nat.le_trans hW.1.size k3.size⟩

theorem WrG.next {L Bw : Nat} {w W W3 : World} {v v' : Value} {l l2 : List UInt8} {U : Nat → Prop} (hG : WrG L Bw w v l W) (hU : ∀ k, U k ↔ k = L ∨ v.ownBlock = some k) (hL : L < Bw) (hBw : Bw ≤ w.heap.size) (hr : Row W Bw v' l2) (hn : ∀ k, v'.ownBlock = some k → v.ownBlock = some k ∨ w.heap.size ≤ k)
    (hb : Blk W3 L 79 #[v']) (ho : OnlyS (fun k => k = L) W W3) : OnlyS U w W3 ∧ ∃ U', WrI L Bw W3 U' l2 ∧ ∀ k, U' k → U k ∨ w.heap.size ≤ k := by
  have hne : ∀ k, v'.ownBlock = some k → ¬ k = L := fun k hk e => by have := World.ownsRow.lt hr k hk; omega
  refine ⟨(hG.1.mono fun k _ hk => (hU k).2 (.inr hk)).then ho fun k _ e => (hU k).2 (.inl e), fun k => k = L ∨ v'.ownBlock = some k, ⟨v', hb, row_to hr fun k hk => ho.block k (World.ownsRow.lt hr k hk).2 (hne k hk), fun _ => Iff.rfl, hL, Nat.le_trans hBw (Nat.le_trans hG.1.size ho.size)⟩, fun k hk => ?_⟩
  rcases hk with rfl | hk
  · exact .inl ((hU k).2 (.inl rfl))
  · exact (hn k hk).imp (fun h => (hU k).2 (.inr h)) id

set_option maxHeartbeats 2000000 in
theorem writer_number {L Bw : Nat} {w : World} {U : Nat → Prop} {l : List UInt8} (n : Nat) (hI : WrI L Bw w U l) (hn : n < 18446744073709551616) (hl : l.length ≤ 1000000000000) :
    Calls Try.prog 81 #[.pointer (some ⟨L, 0, none⟩), .int .u64 (n : Int)] w (HEnd 20000 List.length (WrI L Bw) U l w (wrH.number n l) isNum) := by
  have hnb := nb_le n hn
  have hn9 : (numL n).length ≤ 9 := by rw [numL_length]; omega
  obtain ⟨v, hb, hrow, hU, hL, hBw⟩ := hI
  have HU := Lib.hid hU
  have HL := Lib.hid hL
  have HBw := Lib.hid hBw
  have HLv := Lib.hid (show ¬ v.ownBlock = some L from fun e => by have := World.ownsRow.lt hrow L e; omega)
  have HLen := Lib.hid (show l.length + (numL n).length ≤ 140737488355328 by omega)
  have HGW := Lib.hid (show WrG L Bw w v l w from ⟨OnlyS.refl _ _, hrow, hb⟩)
  have HN9 := Lib.hid hn9
  have HNum := Lib.hid (fun W => num_any n W hn)
  have HX := Lib.hid hn
  clear hnb hn9 hb hrow hU hL hBw hl hn
  go_enter Try.func81, Try.ntmps81
  go_upto_region 1 with fail
  refine region_tail_by 10 _ [(5, .is (.pointer (some ⟨L, 0, none⟩))), (6, .is (.pointer (some ⟨L, 0, none⟩))), (7, .is (.pointer (some ⟨L, 0, none⟩))), (8, .is (.pointer (some ⟨L, 0, none⟩))), (9, .is v), (10, .is (.int .u64 (n : Int))), (11, .row w.heap.size (numL n)), (12, wrNew Bw w v (l ++ (numL n))), (13, .is (.pointer (some ⟨L, 0, none⟩))), (14, .is (.pointer (some ⟨L, 0, none⟩)))] [0, 1, 12, 14] (WrG L Bw w v l) (by kernel_rfl) (by kernel_rfl) (by kernel_rfl) (by kernel_rfl) (by kernel_rfl) rfl rfl rfl rfl (by kernel_rfl) (HGW.out.below (Below.refl _ _).drew) ?_ ?_
  · refine ⟨?c0, ?c1, ?c2, ?c3, ?c4, ?c5, ?c6, ?c7, ?c8, ?c9, trivial⟩
    case c0 => exact ask_copy (guard_none rfl) (.tmp 0) (.inl rfl) (by intro k hk; cases hk; rfl)
    case c1 => exact ask_copy (guard_none rfl) (.tmp 0) (.inl rfl) (by intro k hk; cases hk; rfl)
    case c2 => exact ask_exec (guard_none rfl) (.pointer (some ⟨L, 0, none⟩)) rfl rfl (by intro k hk; cases hk; rfl) (fun W hW => by kernel_rfl)
    case c3 => exact ask_field (guard_none rfl) _ (.tmp 7) 0 (.pointer (some ⟨L, 0, none⟩)) (.pointer (some ⟨L, 0, none⟩)) rfl rfl (by intro k hk; cases hk; rfl) (fun W => by kernel_rfl)
    case c4 => exact ask_load (guard_none rfl) _ (.tmp 8) (.pointer (some ⟨L, 0, none⟩)) v rfl rfl (by intro k hk; cases hk; rfl) (fun W hW => load_bys W _ _ (by rw [hW.2.2.cell]; rfl))
    case c5 => exact ask_copy (guard_none rfl) (.tmp 1) (.inl rfl) (by intro k hk; cases hk; rfl)
    case c6 => exact ask_call (fun _ _ h h2 => WrG.below h h2) (guard_none rfl) _ _ _ #[.int .u64 (n : Int)] (.row w.heap.size (numL n)) rfl (by kernel_rfl) rfl rfl (by intro k hk; cases hk; rfl) (fun W hW => (HNum.out W).mono fun e W' ⟨z, h1, h2, h3⟩ => ⟨z, h1, row_low h2 hW.1.size, h3⟩)
    case c7 => exact ask_wrote (guard_none rfl) (by kernel_rfl) (.tmp 9) (.tmp 11) w.heap.size (by kernel_rfl) rfl rfl rfl HLen.out HLv.out HBw.out (by intro k hk; cases hk; rfl)
    case c8 => exact ask_exec (guard_none rfl) (.pointer (some ⟨L, 0, none⟩)) rfl rfl (by intro k hk; cases hk; rfl) (fun W hW => by kernel_rfl)
    case c9 => exact ask_field (guard_none rfl) _ (.tmp 13) 0 (.pointer (some ⟨L, 0, none⟩)) (.pointer (some ⟨L, 0, none⟩)) rfl rfl (by intro k hk; cases hk; rfl) (fun W => by kernel_rfl)
  · intro a' W hW hd' hs' hf'
    have t0 : a'.tmps.getD 0 undef = .pointer (some ⟨L, 0, none⟩) := hf' 0 rfl
    have t1 : a'.tmps.getD 1 undef = .int .u64 (n : Int) := hf' 1 rfl
    obtain ⟨hr12, hn12, -⟩ : Row W Bw (a'.tmps.getD 12 undef) (l ++ (numL n)) ∧ (∀ k, (a'.tmps.getD 12 undef).ownBlock = some k → v.ownBlock = some k ∨ w.heap.size ≤ k) ∧ w.heap.size ≤ W.heap.size := hf' 12 rfl
    have t14 : a'.tmps.getD 14 undef = .pointer (some ⟨L, 0, none⟩) := hf' 14 rfl
    obtain ⟨us, hus, ha'⟩ := act_open 16 a' hs' hd'
    rw [← hus] at hr12 hn12 t0 t1 t14
    have el : ((List.range 16).map us).toArray = #[us 0, us 1, us 2, us 3, us 4, us 5, us 6, us 7, us 8, us 9, us 10, us 11, us 12, us 13, us 14, us 15] := rfl
    rw [el] at ha'
    subst ha'
    rw [t0, t1, t14]
    obtain ⟨v', hv'⟩ : ∃ v', v' = us 12 := ⟨_, rfl⟩
    rw [← hv'] at hr12 hn12 ⊢
    obtain ⟨va, vc, hvs⟩ := hr12.bys.shape
    obtain ⟨vn, hvn⟩ : ∃ vn, vn = (l ++ (numL n)).length := ⟨_, rfl⟩
    rw [← hvn] at hvs
    subst hvs
    have HR := Lib.hid hr12
    have HN := Lib.hid hn12
    have HG2 := Lib.hid hW
    clear hr12 hn12 hW hd' hs' hf' hus el hv' hvn t0 t1 t14
    go_wp2_with (refine wpList_store_fld rfl 34 (.tmp 14) (.tmp 12) rfl L 0 (.slice va vn vc) rfl rfl 79 #[v] #[.slice va vn vc] HG2.out.2.2 (by simp) rfl (by kernel_rfl) rfl ?_; intro w3 hb ho; (have HZ := Lib.hid (HG2.out.next HU.out HL.out HBw.out HR.out HN.out hb ho)); clear hb ho)
    go_ret
    obtain ⟨ho, U', hI', hs⟩ := HZ.out
    exact HEnd.good (D := 20000) (l := l) (val := isNum) (show wrH.number n l = .ok (n, l ++ numL n) from rfl) ho ⟨rfl, HX.out⟩ hI' hs (by have := HN9.out; rw [List.length_append]; omega)

/-- How the laying of a text ends. -/
def WrText (L Bw : Nat) (U : Nat → Prop) (l : List UInt8) (w : World) (most : Nat) (b : List UInt8) (x : Value) (e : Ending) (w' : World) : Prop :=
  (b.length ≤ most ∧ e = .returned x ∧ OnlyS U w w' ∧ ∃ U', WrI L Bw w' U' (l ++ rawL b) ∧ ∀ k, U' k → U k ∨ w.heap.size ≤ k) ∨ (most < b.length ∧ e = .panicked (gaveUp 4) ∧ w' = w)

set_option maxHeartbeats 2000000 in
theorem writer_text {L Bw : Nat} {w : World} {U : Nat → Prop} {l : List UInt8} (x : Value) (b : List UInt8) (most : Nat) (hI : WrI L Bw w U l) (hx : Stay w U 0 (fun W => Bys W x b)) (hb8 : b.length ≤ 140737488351232) (hm : most ≤ 16384) (hl : l.length ≤ 1000000000000) :
    Calls Try.prog 83 #[.pointer (some ⟨L, 0, none⟩), x, .int .i64 (most : Int)] w (WrText L Bw U l w most b x) := by
  obtain ⟨xa, xc, rfl⟩ := hx.now.shape
  obtain ⟨xn, hxn⟩ : ∃ xn, xn = b.length := ⟨_, rfl⟩
  rw [← hxn] at hx ⊢
  obtain ⟨v, hb, hrow, hU, hL, hBw⟩ := hI
  have HU := Lib.hid hU
  have HL := Lib.hid hL
  have HBw := Lib.hid hBw
  have HLv := Lib.hid (show ¬ v.ownBlock = some L from fun e => by have := World.ownsRow.lt hrow L e; omega)
  have HGW := Lib.hid (show WrG L Bw w v l w from ⟨OnlyS.refl _ _, hrow, hb⟩)
  have HXn := Lib.hid hxn
  by_cases hle : xn ≤ most
  · have hnb := nb_le xn (by omega)
    have HLen := Lib.hid (show l.length + (rawL b).length ≤ 140737488355328 by rw [rawL, List.length_append, numL_length, ← hxn]; omega)
    have HRaw := Lib.hid (fun W (hW : WrG L Bw w v l W) => raw_any (.slice xa xn xc) b W (hx W fun k _ hk hn => hW.1.block k hk fun e => hn ((hU k).2 (.inr e))) hb8)
    have HLe := Lib.hid hle
    clear hnb hb hrow hU hL hBw hl hx hb8 hxn hm
    go_enter Try.func83, Try.ntmps83
    go_wp2_with fail
    refine (mask_yes 4 _).mono ?_
    rintro e w1 ⟨rfl, hw1⟩
    rw [hw1]
    clear hw1 w1
    go_upto_region 2 with fail
    refine region_tail_by 10 _ [(12, .is (.pointer (some ⟨L, 0, none⟩))), (13, .is (.pointer (some ⟨L, 0, none⟩))), (14, .is (.pointer (some ⟨L, 0, none⟩))), (15, .is (.pointer (some ⟨L, 0, none⟩))), (16, .is v), (17, .is (.slice xa xn xc)), (18, .row w.heap.size (rawL b)), (19, wrNew Bw w v (l ++ (rawL b))), (20, .is (.pointer (some ⟨L, 0, none⟩))), (21, .is (.pointer (some ⟨L, 0, none⟩)))] [0, 1, 19, 21] (WrG L Bw w v l) (by kernel_rfl) (by kernel_rfl) (by kernel_rfl) (by kernel_rfl) (by kernel_rfl) rfl rfl rfl rfl (by kernel_rfl) (HGW.out.below (Below.refl _ _).drew) ?_ ?_
    · refine ⟨?c0, ?c1, ?c2, ?c3, ?c4, ?c5, ?c6, ?c7, ?c8, ?c9, trivial⟩
      case c0 => exact ask_copy (guard_none rfl) (.tmp 0) (.inl rfl) (by intro k hk; cases hk; rfl)
      case c1 => exact ask_copy (guard_none rfl) (.tmp 0) (.inl rfl) (by intro k hk; cases hk; rfl)
      case c2 => exact ask_exec (guard_none rfl) (.pointer (some ⟨L, 0, none⟩)) rfl rfl (by intro k hk; cases hk; rfl) (fun W hW => by kernel_rfl)
      case c3 => exact ask_field (guard_none rfl) _ (.tmp 14) 0 (.pointer (some ⟨L, 0, none⟩)) (.pointer (some ⟨L, 0, none⟩)) rfl rfl (by intro k hk; cases hk; rfl) (fun W => by kernel_rfl)
      case c4 => exact ask_load (guard_none rfl) _ (.tmp 15) (.pointer (some ⟨L, 0, none⟩)) v rfl rfl (by intro k hk; cases hk; rfl) (fun W hW => load_bys W _ _ (by rw [hW.2.2.cell]; rfl))
      case c5 => exact ask_copy (guard_none rfl) (.tmp 1) (.inl rfl) (by intro k hk; cases hk; rfl)
      case c6 => exact ask_call (fun _ _ h h2 => WrG.below h h2) (guard_none rfl) _ _ _ #[.slice xa xn xc] (.row w.heap.size (rawL b)) rfl (by kernel_rfl) rfl rfl (by intro k hk; cases hk; rfl) (fun W hW => (HRaw.out W hW).mono fun e W' ⟨z, h1, h2, h3⟩ => ⟨z, h1, row_low h2 hW.1.size, h3⟩)
      case c7 => exact ask_wrote (guard_none rfl) (by kernel_rfl) (.tmp 16) (.tmp 18) w.heap.size (by kernel_rfl) rfl rfl rfl HLen.out HLv.out HBw.out (by intro k hk; cases hk; rfl)
      case c8 => exact ask_exec (guard_none rfl) (.pointer (some ⟨L, 0, none⟩)) rfl rfl (by intro k hk; cases hk; rfl) (fun W hW => by kernel_rfl)
      case c9 => exact ask_field (guard_none rfl) _ (.tmp 20) 0 (.pointer (some ⟨L, 0, none⟩)) (.pointer (some ⟨L, 0, none⟩)) rfl rfl (by intro k hk; cases hk; rfl) (fun W => by kernel_rfl)
    · intro a' W hW hd' hs' hf'
      have t0 : a'.tmps.getD 0 undef = .pointer (some ⟨L, 0, none⟩) := hf' 0 rfl
      have t1 : a'.tmps.getD 1 undef = .slice xa xn xc := hf' 1 rfl
      obtain ⟨hr12, hn12, -⟩ : Row W Bw (a'.tmps.getD 19 undef) (l ++ (rawL b)) ∧ (∀ k, (a'.tmps.getD 19 undef).ownBlock = some k → v.ownBlock = some k ∨ w.heap.size ≤ k) ∧ w.heap.size ≤ W.heap.size := hf' 19 rfl
      have t21 : a'.tmps.getD 21 undef = .pointer (some ⟨L, 0, none⟩) := hf' 21 rfl
      obtain ⟨us, hus, ha'⟩ := act_open 23 a' hs' hd'
      rw [← hus] at hr12 hn12 t0 t1 t21
      have el : ((List.range 23).map us).toArray = #[us 0, us 1, us 2, us 3, us 4, us 5, us 6, us 7, us 8, us 9, us 10, us 11, us 12, us 13, us 14, us 15, us 16, us 17, us 18, us 19, us 20, us 21, us 22] := rfl
      rw [el] at ha'
      subst ha'
      rw [t0, t1, t21]
      obtain ⟨v', hv'⟩ : ∃ v', v' = us 19 := ⟨_, rfl⟩
      rw [← hv'] at hr12 hn12 ⊢
      obtain ⟨va, vc, hvs⟩ := hr12.bys.shape
      obtain ⟨vn, hvn⟩ : ∃ vn, vn = (l ++ (rawL b)).length := ⟨_, rfl⟩
      rw [← hvn] at hvs
      subst hvs
      have HR := Lib.hid hr12
      have HN := Lib.hid hn12
      have HG2 := Lib.hid hW
      clear hr12 hn12 hW hd' hs' hf' hus el hv' hvn t0 t1 t21
      go_wp2_with (refine wpList_store_fld rfl 34 (.tmp 21) (.tmp 19) rfl L 0 (.slice va vn vc) rfl rfl 79 #[v] #[.slice va vn vc] HG2.out.2.2 (by simp) rfl (by kernel_rfl) rfl ?_; intro w3 hb ho; (have HZ := Lib.hid (HG2.out.next HU.out HL.out HBw.out HR.out HN.out hb ho)); clear hb ho)
      go_ret
      obtain ⟨ho, U', hI', hs⟩ := HZ.out
      exact .inl ⟨by have := HXn.out; have := HLe.out; omega, rfl, ho, U', hI', hs⟩
  · clear hx hxn
    go_enter Try.func83, Try.ntmps83
    go_wp2_with fail
    refine (mask_no 4 (by decide) _).mono ?_
    rintro e w1 ⟨rfl, rfl⟩
    exact ⟨rfl, .inr ⟨by have := HXn.out; omega, rfl, rfl⟩⟩
end Go.Proofs.Ytgbhfolbkgibfaa

