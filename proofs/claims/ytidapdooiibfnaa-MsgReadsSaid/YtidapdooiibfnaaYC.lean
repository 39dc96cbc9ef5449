/- Layer 18's reference: Get. -/
import Derived.Test.YtidapdooiibfnaaYB
import Derived.Test.YtidapdooiibfnaaYA
namespace Go.Proofs.Ytidapdooiibfnaa
set_option maxRecDepth 20000
open Go.RowKit BinMath CmdMath Reg
open MsgMath (Mg St codeS thru tag gRange gYes getM gMsg)

theorem load_err (W : World) (p : Addr) (v : Value) (h : W.cell? p = some v) : (Instr.loadAt 30 (.pointer (some p))).run Try.prog W = .ok v W := by
  have hagg : (isAgg 30).run Try.prog W = .ok false W := by kernel_rfl
  simp [Instr.loadAt, Instr.sureAddr, loadVar, Sem.run_bind, hagg, h]

/-- A whole block is written with what it holds. -/
theorem ask_store_same {P : Program} {ops : Array Oper} {tab : List (List Nat)} {fin : List Tmp} {G : World → Prop} {f : Tmp → Fact} {i : Nat} {o : Oper} (hg : guardOk ops f o) (ty : TypeId) (s t : Operand) (g : Nat) (cs : Array Value) (ho : o.op = .store ty s t) (hs : opFact f s = .is (.pointer (some ⟨g, 0, none⟩))) (ht : opFact f t = .is (.agg cs)) (hd : o.dst = none)
    (hk : ∀ k u W W', (f k).holds u W → (f k).holds u W') (h : ∀ W, G W → (Instr.storeAt ty (.pointer (some ⟨g, 0, none⟩)) (.agg cs)).run P W = .ok () (W.setRow g cs) ∧ G (W.setRow g cs)) : Asked P ops tab fin G f i o := by
  intro x W hW hF
  have hT : Told ops f o x W := hF
  have e1 := evalBy_opVal hT s (by rw [ho]; simp [Op.operands]) hs
  have e2 := evalBy_opVal hT t (by rw [ho]; simp [Op.operands]) ht
  obtain ⟨h1, h2⟩ := h W hW
  exact ⟨guard_ok hg hT, gives_store ty s t ho _ _ e1 e2 h1 ⟨h2, fun k u _ _ hu => hk k u _ _ hu, fun k hk => by rw [hd] at hk; cases hk⟩⟩

theorem refRaw_ok {Q G : Nat} {a : Option Addr} {cap : Nat} {l r q t : List UInt8} {w : World} (most : Nat) (hm : most ≤ 1000000) (h : RAt w Q G a cap l r) (hg : gText most r = .ok (t, q)) :
    Calls Try.prog 37 #[.pointer (some ⟨Q, 0, none⟩), .int .i64 (most : Int)] w fun e w' => ∃ v, e = .returned (.tuple #[v, .int .i64 0]) ∧ Row w' w.heap.size v t ∧ RAt w' Q G a cap l q ∧ Only Q w w' := by
  obtain ⟨k, hk, rfl⟩ := h
  obtain ⟨u, e1, rfl⟩ := gText_ok hg
  have hN := refRaw_any Q l k 0 (most : Int) (by omega) w hk
  rw [Int.toNat_natCast, e1] at hN
  exact hN.mono fun e w' ⟨h1, v, h2, h3, h4⟩ => ⟨v, h2, h3, ⟨_, h4, rfl⟩, h1⟩
theorem refRaw_bad {Q G : Nat} {a : Option Addr} {cap : Nat} {l r : List UInt8} {c : Nat} {w : World} (most : Nat) (hm : most ≤ 1000000) (h : RAt w Q G a cap l r) (hg : gText most r = .error c) :
    Calls Try.prog 37 #[.pointer (some ⟨Q, 0, none⟩), .int .i64 (most : Int)] w fun e w' => ∃ v, e = .returned (.tuple #[v, .int .i64 (c : Int)]) ∧ Row w' w.heap.size v [] ∧ Only Q w w' := by
  obtain ⟨k, hk, rfl⟩ := h
  have hN := refRaw_any Q l k 0 (most : Int) (by omega) w hk
  rw [Int.toNat_natCast, gText_bad hg] at hN
  exact hN.mono fun e w' ⟨h1, v, h2, h3, _⟩ => ⟨v, h2, h3, h1⟩

set_option maxHeartbeats 8000000 in
set_option maxRecDepth 100000 in
theorem msgget_no (v : Option Addr) (len c : Nat) (l : List UInt8) (w : World) (hx : Bys w (.slice v len c) l) (hl : l.length ≤ 140737488351232) (hlc : len ≤ c) (e : Nat) (hg : gByte l = .error e) :
    Calls Try.prog 16 #[.slice v len c] w (MGetEnd l w) := by
  have b1 : Below w.heap.size w (((w.alloc (.cells zeroM 27)).alloc (.cells #[.slice v len c, .int .i64 0, .int .i64 0] 65)).alloc (.cells #[.pointer (some ⟨w.heap.size + 1, 0, none⟩), .int .i64 0] 67)) := (((Below.refl _ _).alloc (Nat.le_refl _) _).alloc (by simp) _).alloc (by simp only [World.size_alloc]; omega) _
  have kb := (Blk.newAt (w.alloc (.cells zeroM 27)) 65 _ #[.slice v len c, .int .i64 0, .int .i64 0] (w.heap.size + 1) (by simp) rfl).alloc (.cells #[.pointer (some ⟨w.heap.size + 1, 0, none⟩), .int .i64 0] 67)
  have hA := ref_new (Q := w.heap.size + 1) hx hl hlc (by omega) b1 kb
  have HStart := Lib.hid (show TkAt (((w.alloc (.cells zeroM 27)).alloc (.cells #[.slice v len c, .int .i64 0, .int .i64 0] 65)).alloc (.cells #[.pointer (some ⟨w.heap.size + 1, 0, none⟩), .int .i64 0] 67)) (w.heap.size + 1 + 1) (w.heap.size + 1) w.heap.size v c l (.ok l) ∧ Blk (((w.alloc (.cells zeroM 27)).alloc (.cells #[.slice v len c, .int .i64 0, .int .i64 0] 65)).alloc (.cells #[.pointer (some ⟨w.heap.size + 1, 0, none⟩), .int .i64 0] 67)) w.heap.size 27 zeroM ∧ Below w.heap.size w (((w.alloc (.cells zeroM 27)).alloc (.cells #[.slice v len c, .int .i64 0, .int .i64 0] 65)).alloc (.cells #[.pointer (some ⟨w.heap.size + 1, 0, none⟩), .int .i64 0] 67)) from
    ⟨⟨Blk.newAt _ _ _ _ _ (by simp) rfl, (fun r hr => by cases hr; exact hA), (fun c hc => by cases hc), by simp only [World.size_alloc]; omega, by omega, by omega⟩, ((Blk.new w _ _).alloc _).alloc _, b1⟩)
  clear hx hl hlc b1 kb hA
  go_enter Try.func16, Try.ntmps16
  go_upto_region 2 with fail
  refine world_cut (fun W => TkAt W (w.heap.size + 1 + 1) (w.heap.size + 1) w.heap.size v c l (.ok l) ∧ Blk W w.heap.size 27 zeroM ∧ Below w.heap.size w W) HStart.out ?_
  clear HStart
  rintro w1 ⟨htk, hbr, hbl⟩
  obtain ⟨T, hT⟩ : ∃ T, T = w.heap.size + 1 + 1 := ⟨_, rfl⟩
  obtain ⟨Q, hQ⟩ : ∃ Q, Q = w.heap.size + 1 := ⟨_, rfl⟩
  obtain ⟨R, hR⟩ : ∃ R, R = w.heap.size := ⟨_, rfl⟩
  rw [← hT, ← hQ] at htk
  rw [← hT, ← hQ, ← hR]
  rw [← hR] at hbr
  have hrl : w.heap.size ≤ R := by omega
  have hrq : R < Q := by omega
  have hqt : Q < T := by omega
  have c0 : w1.cell? ⟨T, 0, none⟩ = some (.pointer (some ⟨Q, 0, none⟩)) := by rw [htk.tb.cell]; rfl
  have HTk := Lib.hid htk
  have HBr := Lib.hid hbr
  have HBl := Lib.hid hbl
  clear htk hbr hbl hT hQ hR
  have HN := Lib.hid (refreadByte_bad (HTk.out.rd l rfl) hg)
  obtain rfl := MsgMath.gByte_err hg
  have HGet := Lib.hid (show getM l = (Mg.zero, 2) from MsgMath.getM_fault (MsgMath.msg_nobyte hg))
  have hz : (((2 : Nat) : Int) != 0) = true := rfl
  clear hg
  go_wp2_with fail
  refine HN.out.mono ?_
  rintro e' w2 ⟨rfl, ho2⟩
  have HBr2 := Lib.hid (HBr.out.onlyR ho2 (by omega))
  have HBl2 := Lib.hid (HBl.out.trans (ho2.below (by omega) HBl.out.size))
  clear ho2 HN HTk HBr HBl c0
  go_wp2_with (refine wpList_store_all rfl 27 (.tmp 2) (.tmp 30) rfl R zeroM rfl rfl 27 zeroM HBr2.out (by kernel_rfl) rfl (by kernel_rfl) ?_; intro wh hb ho; (have HBh := Lib.hid hb); (have HOh := Lib.hid ho); clear hb ho)
  exact bodyPost_ret (v := .tuple #[.agg zeroM, .int .i64 2]) (ret_msg rfl _ _ R zeroM _ rfl rfl rfl HBh.out) rfl (mGetEnd_err HGet.out (HBl2.out.trans (HOh.out.below (fun k hk e => by omega) HBl2.out.size)))

set_option maxHeartbeats 8000000 in
set_option maxRecDepth 100000 in
theorem msgget_odd (v : Option Addr) (len c : Nat) (l : List UInt8) (w : World) (hx : Bys w (.slice v len c) l) (hl : l.length ≤ 140737488351232) (hlc : len ≤ c) (k : Nat) (q : List UInt8) (hg : gByte l = .ok (k, q)) (hk : ¬ (1 ≤ k ∧ k ≤ 5)) :
    Calls Try.prog 16 #[.slice v len c] w (MGetEnd l w) := by
  have b1 : Below w.heap.size w (((w.alloc (.cells zeroM 27)).alloc (.cells #[.slice v len c, .int .i64 0, .int .i64 0] 65)).alloc (.cells #[.pointer (some ⟨w.heap.size + 1, 0, none⟩), .int .i64 0] 67)) := (((Below.refl _ _).alloc (Nat.le_refl _) _).alloc (by simp) _).alloc (by simp only [World.size_alloc]; omega) _
  have kb := (Blk.newAt (w.alloc (.cells zeroM 27)) 65 _ #[.slice v len c, .int .i64 0, .int .i64 0] (w.heap.size + 1) (by simp) rfl).alloc (.cells #[.pointer (some ⟨w.heap.size + 1, 0, none⟩), .int .i64 0] 67)
  have hA := ref_new (Q := w.heap.size + 1) hx hl hlc (by omega) b1 kb
  have HStart := Lib.hid (show TkAt (((w.alloc (.cells zeroM 27)).alloc (.cells #[.slice v len c, .int .i64 0, .int .i64 0] 65)).alloc (.cells #[.pointer (some ⟨w.heap.size + 1, 0, none⟩), .int .i64 0] 67)) (w.heap.size + 1 + 1) (w.heap.size + 1) w.heap.size v c l (.ok l) ∧ Blk (((w.alloc (.cells zeroM 27)).alloc (.cells #[.slice v len c, .int .i64 0, .int .i64 0] 65)).alloc (.cells #[.pointer (some ⟨w.heap.size + 1, 0, none⟩), .int .i64 0] 67)) w.heap.size 27 zeroM ∧ Below w.heap.size w (((w.alloc (.cells zeroM 27)).alloc (.cells #[.slice v len c, .int .i64 0, .int .i64 0] 65)).alloc (.cells #[.pointer (some ⟨w.heap.size + 1, 0, none⟩), .int .i64 0] 67)) from
    ⟨⟨Blk.newAt _ _ _ _ _ (by simp) rfl, (fun r hr => by cases hr; exact hA), (fun c hc => by cases hc), by simp only [World.size_alloc]; omega, by omega, by omega⟩, ((Blk.new w _ _).alloc _).alloc _, b1⟩)
  clear hx hl hlc b1 kb hA
  go_enter Try.func16, Try.ntmps16
  go_upto_region 2 with fail
  refine world_cut (fun W => TkAt W (w.heap.size + 1 + 1) (w.heap.size + 1) w.heap.size v c l (.ok l) ∧ Blk W w.heap.size 27 zeroM ∧ Below w.heap.size w W) HStart.out ?_
  clear HStart
  rintro w1 ⟨htk, hbr, hbl⟩
  obtain ⟨T, hT⟩ : ∃ T, T = w.heap.size + 1 + 1 := ⟨_, rfl⟩
  obtain ⟨Q, hQ⟩ : ∃ Q, Q = w.heap.size + 1 := ⟨_, rfl⟩
  obtain ⟨R, hR⟩ : ∃ R, R = w.heap.size := ⟨_, rfl⟩
  rw [← hT, ← hQ] at htk
  rw [← hT, ← hQ, ← hR]
  rw [← hR] at hbr
  have hrl : w.heap.size ≤ R := by omega
  have hrq : R < Q := by omega
  have hqt : Q < T := by omega
  have c0 : w1.cell? ⟨T, 0, none⟩ = some (.pointer (some ⟨Q, 0, none⟩)) := by rw [htk.tb.cell]; rfl
  have HTk := Lib.hid htk
  have HBr := Lib.hid hbr
  have HBl := Lib.hid hbl
  clear htk hbr hbl hT hQ hR
  have HN := Lib.hid (refreadByte_ok (HTk.out.rd l rfl) hg)
  have HGet := Lib.hid (show getM l = (Mg.zero, 3) from MsgMath.getM_fault (MsgMath.msg_nokind hg hk))
  clear hg
  go_wp2_with fail
  refine HN.out.mono ?_
  rintro e' w2 ⟨rfl, hr2, ho2⟩
  have HBr2 := Lib.hid (HBr.out.onlyR ho2 (by omega))
  have HBl2 := Lib.hid (HBl.out.trans (ho2.below (by omega) HBl.out.size))
  clear ho2 HN HTk HBr HBl c0 hr2
  by_cases h1 : k < 1
  · have d1 : decide ((k : Int) < 1) = true := decide_eq_true (by omega)
    go_wp2_with (refine wpList_store_all rfl 27 (.tmp 2) (.tmp 38) rfl R zeroM rfl rfl 27 zeroM HBr2.out (by kernel_rfl) rfl (by kernel_rfl) ?_; intro wh hb ho; (have HBh := Lib.hid hb); (have HOh := Lib.hid ho); clear hb ho)
    exact bodyPost_ret (v := .tuple #[.agg zeroM, .int .i64 3]) (ret_msg rfl _ _ R zeroM _ rfl rfl rfl HBh.out) rfl (mGetEnd_err HGet.out (HBl2.out.trans (HOh.out.below (fun k hk e => by omega) HBl2.out.size)))
  · have d1 : decide ((k : Int) < 1) = false := decide_eq_false (by omega)
    have d2 : decide ((k : Int) > 5) = true := decide_eq_true (by omega)
    have d3 : decide ((5 : Int) < (k : Int)) = true := decide_eq_true (by omega)
    go_wp2_with (refine wpList_store_all rfl 27 (.tmp 2) (.tmp 38) rfl R zeroM rfl rfl 27 zeroM HBr2.out (by kernel_rfl) rfl (by kernel_rfl) ?_; intro wh hb ho; (have HBh := Lib.hid hb); (have HOh := Lib.hid ho); clear hb ho)
    exact bodyPost_ret (v := .tuple #[.agg zeroM, .int .i64 3]) (ret_msg rfl _ _ R zeroM _ rfl rfl rfl HBh.out) rfl (mGetEnd_err HGet.out (HBl2.out.trans (HOh.out.below (fun k hk e => by omega) HBl2.out.size)))

set_option maxHeartbeats 8000000 in
set_option maxRecDepth 100000 in
theorem msgget_1 (v : Option Addr) (len c : Nat) (l : List UInt8) (w : World) (hx : Bys w (.slice v len c) l) (hl : l.length ≤ 140737488351232) (hlc : len ≤ c) (q : List UInt8) (hg : gByte l = .ok (1, q)) :
    Calls Try.prog 16 #[.slice v len c] w (MGetEnd l w) := by
  have b1 : Below w.heap.size w (((w.alloc (.cells zeroM 27)).alloc (.cells #[.slice v len c, .int .i64 0, .int .i64 0] 65)).alloc (.cells #[.pointer (some ⟨w.heap.size + 1, 0, none⟩), .int .i64 0] 67)) := (((Below.refl _ _).alloc (Nat.le_refl _) _).alloc (by simp) _).alloc (by simp only [World.size_alloc]; omega) _
  have kb := (Blk.newAt (w.alloc (.cells zeroM 27)) 65 _ #[.slice v len c, .int .i64 0, .int .i64 0] (w.heap.size + 1) (by simp) rfl).alloc (.cells #[.pointer (some ⟨w.heap.size + 1, 0, none⟩), .int .i64 0] 67)
  have hA := ref_new (Q := w.heap.size + 1) hx hl hlc (by omega) b1 kb
  have HStart := Lib.hid (show TkAt (((w.alloc (.cells zeroM 27)).alloc (.cells #[.slice v len c, .int .i64 0, .int .i64 0] 65)).alloc (.cells #[.pointer (some ⟨w.heap.size + 1, 0, none⟩), .int .i64 0] 67)) (w.heap.size + 1 + 1) (w.heap.size + 1) w.heap.size v c l (.ok l) ∧ Blk (((w.alloc (.cells zeroM 27)).alloc (.cells #[.slice v len c, .int .i64 0, .int .i64 0] 65)).alloc (.cells #[.pointer (some ⟨w.heap.size + 1, 0, none⟩), .int .i64 0] 67)) w.heap.size 27 zeroM ∧ Below w.heap.size w (((w.alloc (.cells zeroM 27)).alloc (.cells #[.slice v len c, .int .i64 0, .int .i64 0] 65)).alloc (.cells #[.pointer (some ⟨w.heap.size + 1, 0, none⟩), .int .i64 0] 67)) from
    ⟨⟨Blk.newAt _ _ _ _ _ (by simp) rfl, (fun r hr => by cases hr; exact hA), (fun c hc => by cases hc), by simp only [World.size_alloc]; omega, by omega, by omega⟩, ((Blk.new w _ _).alloc _).alloc _, b1⟩)
  clear hx hl hlc b1 kb hA
  go_enter Try.func16, Try.ntmps16
  go_upto_region 2 with fail
  refine world_cut (fun W => TkAt W (w.heap.size + 1 + 1) (w.heap.size + 1) w.heap.size v c l (.ok l) ∧ Blk W w.heap.size 27 zeroM ∧ Below w.heap.size w W) HStart.out ?_
  clear HStart
  rintro w1 ⟨htk, hbr, hbl⟩
  obtain ⟨T, hT⟩ : ∃ T, T = w.heap.size + 1 + 1 := ⟨_, rfl⟩
  obtain ⟨Q, hQ⟩ : ∃ Q, Q = w.heap.size + 1 := ⟨_, rfl⟩
  obtain ⟨R, hR⟩ : ∃ R, R = w.heap.size := ⟨_, rfl⟩
  rw [← hT, ← hQ] at htk
  rw [← hT, ← hQ, ← hR]
  rw [← hR] at hbr
  have hrl : w.heap.size ≤ R := by omega
  have hrq : R < Q := by omega
  have hqt : Q < T := by omega
  have c0 : w1.cell? ⟨T, 0, none⟩ = some (.pointer (some ⟨Q, 0, none⟩)) := by rw [htk.tb.cell]; rfl
  have HTk := Lib.hid htk
  have HBr := Lib.hid hbr
  have HBl := Lib.hid hbl
  clear htk hbr hbl hT hQ hR
  have HN := Lib.hid (show Calls Try.prog 34 #[.pointer (some ⟨Q, 0, none⟩)] w1 fun e w' => e = .returned (.tuple #[.int .u8 1, .int .i64 0]) ∧ RAt w' Q w.heap.size v c l q ∧ Only Q w1 w' from refreadByte_ok (HTk.out.rd l rfl) hg)
  have HByte := Lib.hid hg
  clear hg
  go_wp2_with fail
  refine HN.out.mono ?_
  rintro e w2 ⟨rfl, hr2, ho2⟩
  have htk2 : TkAt w2 T Q w.heap.size v c l (.ok q) := ⟨HTk.out.tb.onlyR ho2 (by omega), (fun r hr => by cases hr; exact hr2), (fun c hc => by cases hc), Nat.lt_of_lt_of_le HTk.out.ql ho2.size, HTk.out.gq, hqt⟩
  have HTk2 := Lib.hid htk2
  have HBr2 := Lib.hid (HBr.out.onlyR ho2 (by omega))
  have HBl2 := Lib.hid (HBl.out.trans (ho2.below (by omega) HBl.out.size))
  clear htk2 hr2 ho2 HN HTk HBr HBl c0
  go_wp2_with (refine wpList_store_all rfl 27 (.tmp 7) (.tmp 41) rfl w2.heap.size #[.int .i64 1, .int .u64 0, .int .u64 0, .int .u64 0, .int .u64 0, .int .u64 0, .int .u64 0, .int .u64 0, .bool false, .slice none 0 0, .slice none 0 0, .slice none 0 0] rfl rfl 27 zeroM (Blk.new w2 _ _) (by kernel_rfl) rfl (by kernel_rfl) ?_; intro wz hbz hoz; (have HBz := Lib.hid hbz); (have HOz := Lib.hid hoz); clear hbz hoz)
  have hG0 : GAt w R Q T w2.heap.size v c l (.ok q) #[.int .i64 1, .int .u64 0, .int .u64 0, .int .u64 0, .int .u64 0, .int .u64 0, .int .u64 0, .int .u64 0, .bool false, .slice none 0 0, .slice none 0 0, .slice none 0 0] wz := by
    have h1 := HTk2.out.tl
    have h2 := HTk2.out.ql
    have h3 := HBr2.out.lt
    have hb := (Below.refl w2.heap.size w2).alloc (Nat.le_refl _) (.cells zeroM 27)
    exact ⟨(HTk2.out.below hb).only HOz.out (fun k hk e => by omega) (by omega) (by omega), (HBr2.out.keep hb).onlyS HOz.out (by omega), HBz.out, (HBl2.out.trans (hb.mono HBl2.out.size)).trans (HOz.out.below (fun k hk e => by have := HBl2.out.size; omega) (by have := HBl2.out.size; simp only [World.size_alloc]; omega)), hrl, hrq, h1⟩
  obtain ⟨Z, hZ⟩ : ∃ Z, Z = w2.heap.size := ⟨_, rfl⟩
  rw [← hZ] at hG0 ⊢
  have HG0 := Lib.hid hG0
  clear hG0 hZ HTk2 HBr2 HBl2 HBz HOz
  refine (tknum_any 1 7 (by decide) (by decide) HG0.out.tk).mono ?_
  rintro e x1 ⟨nf, s1, rfl, hv1, ht1, tk1, ho1⟩
  have HV1 := Lib.hid hv1
  have HT1 := Lib.hid ht1
  have HG1 := Lib.hid (HG0.out.call tk1 ho1)
  clear hv1 ht1 tk1 ho1 HG0
  go_wp2_with (refine wpList_store_fld rfl 22 (.tmp 44) (.tmp 43) rfl Z 1 (.int .u64 (nf : Int)) rfl rfl 27 #[.int .i64 1, .int .u64 0, .int .u64 0, .int .u64 0, .int .u64 0, .int .u64 0, .int .u64 0, .int .u64 0, .bool false, .slice none 0 0, .slice none 0 0, .slice none 0 0] #[.int .i64 1, .int .u64 (nf : Int), .int .u64 0, .int .u64 0, .int .u64 0, .int .u64 0, .int .u64 0, .int .u64 0, .bool false, .slice none 0 0, .slice none 0 0, .slice none 0 0] HG1.out.bz (by simp) rfl (by kernel_rfl) rfl ?_; intro y2 hb ho; (have HG2 := Lib.hid (HG1.out.set hb ho)); clear hb ho HG1)
  refine (tknum_any 1 7 (by decide) (by decide) HG2.out.tk).mono ?_
  rintro e x3 ⟨no, s3, rfl, hv3, ht3, tk3, ho3⟩
  have HV3 := Lib.hid hv3
  have HT3 := Lib.hid ht3
  have HG3 := Lib.hid (HG2.out.call tk3 ho3)
  clear hv3 ht3 tk3 ho3 HG2
  go_wp2_with (refine wpList_store_fld rfl 22 (.tmp 47) (.tmp 46) rfl Z 2 (.int .u64 (no : Int)) rfl rfl 27 #[.int .i64 1, .int .u64 (nf : Int), .int .u64 0, .int .u64 0, .int .u64 0, .int .u64 0, .int .u64 0, .int .u64 0, .bool false, .slice none 0 0, .slice none 0 0, .slice none 0 0] #[.int .i64 1, .int .u64 (nf : Int), .int .u64 (no : Int), .int .u64 0, .int .u64 0, .int .u64 0, .int .u64 0, .int .u64 0, .bool false, .slice none 0 0, .slice none 0 0, .slice none 0 0] HG3.out.bz (by simp) rfl (by kernel_rfl) rfl ?_; intro y4 hb ho; (have HG4 := Lib.hid (HG3.out.set hb ho)); clear hb ho HG3)
  refine (tknum_any 1 4611686018427387904 (by decide) (by decide) HG4.out.tk).mono ?_
  rintro e x5 ⟨nt, s5, rfl, hv5, ht5, tk5, ho5⟩
  have HV5 := Lib.hid hv5
  have HT5 := Lib.hid ht5
  have HG5 := Lib.hid (HG4.out.call tk5 ho5)
  clear hv5 ht5 tk5 ho5 HG4
  go_wp2_with (refine wpList_store_fld rfl 22 (.tmp 50) (.tmp 49) rfl Z 3 (.int .u64 (nt : Int)) rfl rfl 27 #[.int .i64 1, .int .u64 (nf : Int), .int .u64 (no : Int), .int .u64 0, .int .u64 0, .int .u64 0, .int .u64 0, .int .u64 0, .bool false, .slice none 0 0, .slice none 0 0, .slice none 0 0] #[.int .i64 1, .int .u64 (nf : Int), .int .u64 (no : Int), .int .u64 (nt : Int), .int .u64 0, .int .u64 0, .int .u64 0, .int .u64 0, .bool false, .slice none 0 0, .slice none 0 0, .slice none 0 0] HG5.out.bz (by simp) rfl (by kernel_rfl) rfl ?_; intro y6 hb ho; (have HG6 := Lib.hid (HG5.out.set hb ho)); (have cz : y6.cell? ⟨Z, 0, none⟩ = some (.int .i64 1) := by rw [hb.cell]; rfl); clear hb ho HG5)
  refine (tknum_any 0 4611686018427387904 (by decide) (by decide) HG6.out.tk).mono ?_
  rintro e x7 ⟨ni, s7, rfl, hv7, ht7, tk7, ho7⟩
  have HV7 := Lib.hid hv7
  have HT7 := Lib.hid ht7
  have HG7 := Lib.hid (HG6.out.call tk7 ho7)
  clear hv7 ht7 tk7 ho7 HG6
  go_wp2_with (refine wpList_store_fld rfl 22 (.tmp 57) (.tmp 56) rfl Z 4 (.int .u64 (ni : Int)) rfl rfl 27 #[.int .i64 1, .int .u64 (nf : Int), .int .u64 (no : Int), .int .u64 (nt : Int), .int .u64 0, .int .u64 0, .int .u64 0, .int .u64 0, .bool false, .slice none 0 0, .slice none 0 0, .slice none 0 0] #[.int .i64 1, .int .u64 (nf : Int), .int .u64 (no : Int), .int .u64 (nt : Int), .int .u64 (ni : Int), .int .u64 0, .int .u64 0, .int .u64 0, .bool false, .slice none 0 0, .slice none 0 0, .slice none 0 0] HG7.out.bz (by simp) rfl (by kernel_rfl) rfl ?_; intro y8 hb ho; (have HG8 := Lib.hid (HG7.out.set hb ho)); clear hb ho HG7)
  refine (tknum_any 0 4611686018427387904 (by decide) (by decide) HG8.out.tk).mono ?_
  rintro e x9 ⟨nl, s9, rfl, hv9, ht9, tk9, ho9⟩
  have HV9 := Lib.hid hv9
  have HT9 := Lib.hid ht9
  have HG9 := Lib.hid (HG8.out.call tk9 ho9)
  clear hv9 ht9 tk9 ho9 HG8
  go_upto_region 47 with (refine wpList_store_fld rfl 22 (.tmp 60) (.tmp 59) rfl Z 5 (.int .u64 (nl : Int)) rfl rfl 27 #[.int .i64 1, .int .u64 (nf : Int), .int .u64 (no : Int), .int .u64 (nt : Int), .int .u64 (ni : Int), .int .u64 0, .int .u64 0, .int .u64 0, .bool false, .slice none 0 0, .slice none 0 0, .slice none 0 0] #[.int .i64 1, .int .u64 (nf : Int), .int .u64 (no : Int), .int .u64 (nt : Int), .int .u64 (ni : Int), .int .u64 (nl : Int), .int .u64 0, .int .u64 0, .bool false, .slice none 0 0, .slice none 0 0, .slice none 0 0] HG9.out.bz (by simp) rfl (by kernel_rfl) rfl ?_; intro y10 hb ho; (have HG10 := Lib.hid (HG9.out.set hb ho)); clear hb ho HG9)
  have HMsg := Lib.hid (show gMsg l = tag (⟨1, nf, no, nt, ni, nl, 0, 0, false, [], [], []⟩ : Mg) s9 from (MsgMath.msg_head HByte.out (by omega) HT1.out HT3.out HT5.out).trans (MsgMath.body_1 HT7.out HT9.out))
  cases s9 with
  | error cc =>
    have hcc := HG10.out.tk.er cc rfl
    have c0 : y10.cell? ⟨T, 0, none⟩ = some (.pointer (some ⟨Q, 0, none⟩)) := by rw [HG10.out.tk.tb.cell]; rfl
    have c1 : y10.cell? ⟨T, 1, none⟩ = some (.int .i64 (cc : Int)) := by rw [HG10.out.tk.tb.cell]; rfl
    have hz : ((cc : Int) == 0) = false := by simp; omega
    have hz2 : ((cc : Int) != 0) = true := by simp; omega
    have HGet := Lib.hid (show getM l = (Mg.zero, cc) from MsgMath.getM_fault HMsg.out)
    go_upto_region 50 with fail
    clear c0 c1
    have hgr := HG10.out
    have h1 := hgr.rl
    have h2 := hgr.rq
    have h3 := hgr.tk.qt
    refine region_by [(213, .is (.agg zeroM)), (214, .is (.pointer (some ⟨T, 0, none⟩))), (215, .is (.pointer (some ⟨T, 0, none⟩))), (216, .is (.pointer (some ⟨T, 1, none⟩))), (217, .is (.int .i64 (cc : Int))), (3, .is (.int .i64 (cc : Int)))] [2, 3] (fun W => OnlyS (fun k => k = R) y10 W ∧ Blk W R 27 zeroM) (by kernel_rfl) (by kernel_rfl) (by kernel_rfl) (by kernel_rfl) (by kernel_rfl) ⟨(OnlyS.refl _ _).drew, hgr.br.keep ((Below.refl _ _).drew)⟩ ?_ ?_
    · refine ⟨?c0, ?c1, ?c2, ?c3, ?c4, ?c5, ?c6, trivial⟩
      case c0 => exact ask_exec (guard_none rfl) (.agg zeroM) rfl rfl (by intro k hk; cases hk; rfl) (fun W hW => by kernel_rfl)
      case c1 => exact ask_copy (guard_none rfl) (.tmp 4) (.inl rfl) (by intro k hk; cases hk; rfl)
      case c2 => exact ask_exec (guard_none rfl) (.pointer (some ⟨T, 0, none⟩)) rfl rfl (by intro k hk; cases hk; rfl) (fun W hW => by kernel_rfl)
      case c3 => exact ask_field (guard_none rfl) _ (.tmp 215) 1 (.pointer (some ⟨T, 0, none⟩)) (.pointer (some ⟨T, 1, none⟩)) rfl rfl (by intro k hk; cases hk; rfl) (fun W => by kernel_rfl)
      case c4 => exact ask_load (guard_none rfl) _ (.tmp 216) (.pointer (some ⟨T, 1, none⟩)) (.int .i64 (cc : Int)) rfl rfl (by intro k hk; cases hk; rfl) (fun W hW => load_err W _ _ (by rw [(hgr.tk.tb.onlyS hW.1 (by omega)).cell]; rfl))
      case c5 => exact ask_store_same (guard_none rfl) 27 (.tmp 2) (.tmp 213) R zeroM rfl rfl rfl rfl (facts_is (by simp [isFact])) (fun W hW => ⟨hW.2.stores 27 _ (by kernel_rfl) rfl (by kernel_rfl), hW.1.trans (setRow_onlyS W R zeroM), hW.2.row _⟩)
      case c6 => exact ask_copy (guard_none rfl) (.tmp 217) (.inr rfl) (by intro k hk; cases hk; rfl)
    · intro a' W hW hd' hs' hf'
      have t2 : a'.tmps.getD 2 undef = .pointer (some ⟨R, 0, none⟩) := hf' 2 rfl
      have t3 : a'.tmps.getD 3 undef = .int .i64 (cc : Int) := hf' 3 rfl
      obtain ⟨us', hus, ha'⟩ := act_open 219 a' hs' hd'
      rw [← hus] at t2 t3
      have el : ((List.range 219).map us').toArray = #[us' 0, us' 1, .pointer (some ⟨R, 0, none⟩), .int .i64 (cc : Int), us' 4, us' 5, us' 6, us' 7, us' 8, us' 9, us' 10, us' 11, us' 12, us' 13, us' 14, us' 15, us' 16, us' 17, us' 18, us' 19, us' 20, us' 21, us' 22, us' 23, us' 24, us' 25, us' 26, us' 27, us' 28, us' 29, us' 30, us' 31, us' 32, us' 33, us' 34, us' 35, us' 36, us' 37, us' 38, us' 39, us' 40, us' 41, us' 42, us' 43, us' 44, us' 45, us' 46, us' 47, us' 48, us' 49, us' 50, us' 51, us' 52, us' 53, us' 54, us' 55, us' 56, us' 57, us' 58, us' 59, us' 60, us' 61, us' 62, us' 63, us' 64, us' 65, us' 66, us' 67, us' 68, us' 69, us' 70, us' 71, us' 72, us' 73, us' 74, us' 75, us' 76, us' 77, us' 78, us' 79, us' 80, us' 81, us' 82, us' 83, us' 84, us' 85, us' 86, us' 87, us' 88, us' 89, us' 90, us' 91, us' 92, us' 93, us' 94, us' 95, us' 96, us' 97, us' 98, us' 99, us' 100, us' 101, us' 102, us' 103, us' 104, us' 105, us' 106, us' 107, us' 108, us' 109, us' 110, us' 111, us' 112, us' 113, us' 114, us' 115, us' 116, us' 117, us' 118, us' 119, us' 120, us' 121, us' 122, us' 123, us' 124, us' 125, us' 126, us' 127, us' 128, us' 129, us' 130, us' 131, us' 132, us' 133, us' 134, us' 135, us' 136, us' 137, us' 138, us' 139, us' 140, us' 141, us' 142, us' 143, us' 144, us' 145, us' 146, us' 147, us' 148, us' 149, us' 150, us' 151, us' 152, us' 153, us' 154, us' 155, us' 156, us' 157, us' 158, us' 159, us' 160, us' 161, us' 162, us' 163, us' 164, us' 165, us' 166, us' 167, us' 168, us' 169, us' 170, us' 171, us' 172, us' 173, us' 174, us' 175, us' 176, us' 177, us' 178, us' 179, us' 180, us' 181, us' 182, us' 183, us' 184, us' 185, us' 186, us' 187, us' 188, us' 189, us' 190, us' 191, us' 192, us' 193, us' 194, us' 195, us' 196, us' 197, us' 198, us' 199, us' 200, us' 201, us' 202, us' 203, us' 204, us' 205, us' 206, us' 207, us' 208, us' 209, us' 210, us' 211, us' 212, us' 213, us' 214, us' 215, us' 216, us' 217, us' 218] := by
        show #[us' 0, us' 1, us' 2, us' 3, us' 4, us' 5, us' 6, us' 7, us' 8, us' 9, us' 10, us' 11, us' 12, us' 13, us' 14, us' 15, us' 16, us' 17, us' 18, us' 19, us' 20, us' 21, us' 22, us' 23, us' 24, us' 25, us' 26, us' 27, us' 28, us' 29, us' 30, us' 31, us' 32, us' 33, us' 34, us' 35, us' 36, us' 37, us' 38, us' 39, us' 40, us' 41, us' 42, us' 43, us' 44, us' 45, us' 46, us' 47, us' 48, us' 49, us' 50, us' 51, us' 52, us' 53, us' 54, us' 55, us' 56, us' 57, us' 58, us' 59, us' 60, us' 61, us' 62, us' 63, us' 64, us' 65, us' 66, us' 67, us' 68, us' 69, us' 70, us' 71, us' 72, us' 73, us' 74, us' 75, us' 76, us' 77, us' 78, us' 79, us' 80, us' 81, us' 82, us' 83, us' 84, us' 85, us' 86, us' 87, us' 88, us' 89, us' 90, us' 91, us' 92, us' 93, us' 94, us' 95, us' 96, us' 97, us' 98, us' 99, us' 100, us' 101, us' 102, us' 103, us' 104, us' 105, us' 106, us' 107, us' 108, us' 109, us' 110, us' 111, us' 112, us' 113, us' 114, us' 115, us' 116, us' 117, us' 118, us' 119, us' 120, us' 121, us' 122, us' 123, us' 124, us' 125, us' 126, us' 127, us' 128, us' 129, us' 130, us' 131, us' 132, us' 133, us' 134, us' 135, us' 136, us' 137, us' 138, us' 139, us' 140, us' 141, us' 142, us' 143, us' 144, us' 145, us' 146, us' 147, us' 148, us' 149, us' 150, us' 151, us' 152, us' 153, us' 154, us' 155, us' 156, us' 157, us' 158, us' 159, us' 160, us' 161, us' 162, us' 163, us' 164, us' 165, us' 166, us' 167, us' 168, us' 169, us' 170, us' 171, us' 172, us' 173, us' 174, us' 175, us' 176, us' 177, us' 178, us' 179, us' 180, us' 181, us' 182, us' 183, us' 184, us' 185, us' 186, us' 187, us' 188, us' 189, us' 190, us' 191, us' 192, us' 193, us' 194, us' 195, us' 196, us' 197, us' 198, us' 199, us' 200, us' 201, us' 202, us' 203, us' 204, us' 205, us' 206, us' 207, us' 208, us' 209, us' 210, us' 211, us' 212, us' 213, us' 214, us' 215, us' 216, us' 217, us' 218] = _
        rw [t2, t3]
      rw [el] at ha'
      subst ha'
      clear hus t2 t3 el hf' hs' hd'
      have HW := Lib.hid hW
      clear hW
      go_wp2
      exact bodyPost_ret (v := .tuple #[.agg zeroM, .int .i64 (cc : Int)]) (ret_msg rfl _ _ R zeroM _ rfl rfl rfl HW.out.2) rfl (mGetEnd_err HGet.out (hgr.bl.trans (HW.out.1.below (fun k hk e => by omega) hgr.bl.size)))
  | ok rr =>
    have c0 : y10.cell? ⟨T, 0, none⟩ = some (.pointer (some ⟨Q, 0, none⟩)) := by rw [HG10.out.tk.tb.cell]; rfl
    have c1 : y10.cell? ⟨T, 1, none⟩ = some (.int .i64 0) := by rw [HG10.out.tk.tb.cell]; rfl
    have HEnd := Lib.hid (refreadEnd_any (HG10.out.tk.rd rr rfl))
    have HRead := Lib.hid (msg_read HMsg.out)
    by_cases hrr : rr = []
    · rw [if_pos hrr] at HEnd
      have HGet := Lib.hid (show getM l = ((⟨1, nf, no, nt, ni, nl, 0, 0, false, [], [], []⟩ : Mg), 0) by rw [MsgMath.getM_done HMsg.out, if_pos hrr])
      clear hrr
      go_wp2_with fail
      refine HEnd.out.mono ?_
      rintro e we ⟨rfl, hoe⟩
      have HOe := Lib.hid hoe
      have HTe := Lib.hid (HG10.out.tk.tb.onlyR hoe (by have := HG10.out.tk.qt; omega))
      have HZe := Lib.hid (HG10.out.bz.onlyR hoe (by have h1 := HG10.out.tk.qt; have h2 := HG10.out.tz; omega))
      have HRe := Lib.hid (HG10.out.br.onlyR hoe (by have := HG10.out.rq; omega))
      clear hoe c0 c1 HEnd
      have hne := HG10.out.tk.qt
      have hne2 := HG10.out.tz
      have hne3 := HG10.out.rq
      go_wp2_with (first
        | (refine wpList_store_fld rfl 30 (.tmp 207) (.tmp 205) rfl T 1 (.int .i64 ((0 : Nat) : Int)) rfl rfl 67 _ #[.pointer (some ⟨Q, 0, none⟩), .int .i64 0] HTe.out (by simp) rfl (by kernel_rfl) rfl ?_; intro wf hb ho; (have c0 : wf.cell? ⟨T, 0, none⟩ = some (.pointer (some ⟨Q, 0, none⟩)) := by rw [hb.cell]; rfl); (have c1 : wf.cell? ⟨T, 1, none⟩ = some (.int .i64 0) := by rw [hb.cell]; rfl); (have HOf := Lib.hid ho); (have HZf := Lib.hid (HZe.out.onlyS ho (by omega))); (have HRf := Lib.hid (HRe.out.onlyS ho (by omega))); clear hb ho)
        | (refine wpList_load_by rfl 27 (.tmp 7) rfl _ _ rfl (HZf.out.loads 27 _ Try.underlying27 rfl rfl) ?_)
        | (refine wpList_store_all rfl 27 (.tmp 2) (.tmp 218) rfl R #[.int .i64 1, .int .u64 (nf : Int), .int .u64 (no : Int), .int .u64 (nt : Int), .int .u64 (ni : Int), .int .u64 (nl : Int), .int .u64 0, .int .u64 0, .bool false, .slice none 0 0, .slice none 0 0, .slice none 0 0] rfl rfl 27 zeroM HRf.out (by kernel_rfl) rfl (by simp [Value.oneCell']) ?_; intro wh hb ho; (have HBh := Lib.hid hb); (have HOh := Lib.hid ho); clear hb ho))
      have hos : OnlyS (fun k => k = Q ∨ k = T ∨ k = R) y10 wh := ((OnlyS.of_only HOe.out (.inl rfl)).trans (HOf.out.mono fun _ _ e => .inr (.inl e))).trans (HOh.out.mono fun _ _ e => .inr (.inr e))
      have hbl : Below w.heap.size w wh := HG10.out.bl.trans (hos.below (fun k hk e => by have h1 := HG10.out.rl; rcases e with e | e | e <;> omega) HG10.out.bl.size)
      refine bodyPost_ret (v := .tuple #[.agg #[.int .i64 1, .int .u64 (nf : Int), .int .u64 (no : Int), .int .u64 (nt : Int), .int .u64 (ni : Int), .int .u64 (nl : Int), .int .u64 0, .int .u64 0, .bool false, .slice none 0 0, .slice none 0 0, .slice none 0 0], .int .i64 0]) (ret_msg rfl _ _ R #[.int .i64 1, .int .u64 (nf : Int), .int .u64 (no : Int), .int .u64 (nt : Int), .int .u64 (ni : Int), .int .u64 (nl : Int), .int .u64 0, .int .u64 0, .bool false, .slice none 0 0, .slice none 0 0, .slice none 0 0] _ rfl rfl rfl HBh.out) rfl ?_
      unfold MGetEnd
      rw [HGet.out]
      exact ⟨_, _, _, [], rfl, ⟨HRead.out.1, ERow.nil _ _, fun u hu => absurd hu List.not_mem_nil, rfl, World.ownsRow_nil _ _ _ _, World.ownsRow_nil _ _ _ _, by simp, by simp, by simp⟩, hbl⟩
    · rw [if_neg hrr] at HEnd
      have HGet := Lib.hid (show getM l = (Mg.zero, 5) by rw [MsgMath.getM_done HMsg.out, if_neg hrr])
      clear hrr
      go_wp2_with fail
      refine HEnd.out.mono ?_
      rintro e we ⟨rfl, hoe⟩
      have HOe := Lib.hid hoe
      have HTe := Lib.hid (HG10.out.tk.tb.onlyR hoe (by have := HG10.out.tk.qt; omega))
      have HRe := Lib.hid (HG10.out.br.onlyR hoe (by have := HG10.out.rq; omega))
      clear hoe c0 c1 HEnd
      have hne := HG10.out.tk.qt
      have hne2 := HG10.out.tz
      have hne3 := HG10.out.rq
      go_upto_region 50 with (refine wpList_store_fld rfl 30 (.tmp 207) (.tmp 205) rfl T 1 (.int .i64 ((5 : Nat) : Int)) rfl rfl 67 _ #[.pointer (some ⟨Q, 0, none⟩), .int .i64 5] HTe.out (by simp) rfl (by kernel_rfl) rfl ?_; intro wf hb ho; (have c0 : wf.cell? ⟨T, 0, none⟩ = some (.pointer (some ⟨Q, 0, none⟩)) := by rw [hb.cell]; rfl); (have c1 : wf.cell? ⟨T, 1, none⟩ = some (.int .i64 5) := by rw [hb.cell]; rfl); (have HOf := Lib.hid ho); (have HTf := Lib.hid hb); (have HRf := Lib.hid (HRe.out.onlyS ho (by omega))); clear hb ho)
      clear c0 c1
      have hos : OnlyS (fun k => k = Q ∨ k = T) y10 wf := (OnlyS.of_only HOe.out (.inl rfl)).trans (HOf.out.mono fun _ _ e => .inr e)
      have hbl : Below w.heap.size w wf := HG10.out.bl.trans (hos.below (fun k hk e => by have h1 := HG10.out.rl; rcases e with e | e <;> omega) HG10.out.bl.size)
      have HBl := Lib.hid hbl
      have h1 := HG10.out.rl
      clear hos hbl
      refine region_by [(213, .is (.agg zeroM)), (214, .is (.pointer (some ⟨T, 0, none⟩))), (215, .is (.pointer (some ⟨T, 0, none⟩))), (216, .is (.pointer (some ⟨T, 1, none⟩))), (217, .is (.int .i64 5)), (3, .is (.int .i64 5))] [2, 3] (fun W => OnlyS (fun k => k = R) wf W ∧ Blk W R 27 zeroM) (by kernel_rfl) (by kernel_rfl) (by kernel_rfl) (by kernel_rfl) (by kernel_rfl) ⟨(OnlyS.refl _ _).drew, HRf.out.keep ((Below.refl _ _).drew)⟩ ?_ ?_
      · refine ⟨?c0, ?c1, ?c2, ?c3, ?c4, ?c5, ?c6, trivial⟩
        case c0 => exact ask_exec (guard_none rfl) (.agg zeroM) rfl rfl (by intro k hk; cases hk; rfl) (fun W hW => by kernel_rfl)
        case c1 => exact ask_copy (guard_none rfl) (.tmp 4) (.inl rfl) (by intro k hk; cases hk; rfl)
        case c2 => exact ask_exec (guard_none rfl) (.pointer (some ⟨T, 0, none⟩)) rfl rfl (by intro k hk; cases hk; rfl) (fun W hW => by kernel_rfl)
        case c3 => exact ask_field (guard_none rfl) _ (.tmp 215) 1 (.pointer (some ⟨T, 0, none⟩)) (.pointer (some ⟨T, 1, none⟩)) rfl rfl (by intro k hk; cases hk; rfl) (fun W => by kernel_rfl)
        case c4 => exact ask_load (guard_none rfl) _ (.tmp 216) (.pointer (some ⟨T, 1, none⟩)) (.int .i64 5) rfl rfl (by intro k hk; cases hk; rfl) (fun W hW => load_err W _ _ (by rw [(HTf.out.onlyS hW.1 (by omega)).cell]; rfl))
        case c5 => exact ask_store_same (guard_none rfl) 27 (.tmp 2) (.tmp 213) R zeroM rfl rfl rfl rfl (facts_is (by simp [isFact])) (fun W hW => ⟨hW.2.stores 27 _ (by kernel_rfl) rfl (by kernel_rfl), hW.1.trans (setRow_onlyS W R zeroM), hW.2.row _⟩)
        case c6 => exact ask_copy (guard_none rfl) (.tmp 217) (.inr rfl) (by intro k hk; cases hk; rfl)
      · intro a' W hW hd' hs' hf'
        have t2 : a'.tmps.getD 2 undef = .pointer (some ⟨R, 0, none⟩) := hf' 2 rfl
        have t3 : a'.tmps.getD 3 undef = .int .i64 5 := hf' 3 rfl
        obtain ⟨us', hus, ha'⟩ := act_open 219 a' hs' hd'
        rw [← hus] at t2 t3
        have el : ((List.range 219).map us').toArray = #[us' 0, us' 1, .pointer (some ⟨R, 0, none⟩), .int .i64 5, us' 4, us' 5, us' 6, us' 7, us' 8, us' 9, us' 10, us' 11, us' 12, us' 13, us' 14, us' 15, us' 16, us' 17, us' 18, us' 19, us' 20, us' 21, us' 22, us' 23, us' 24, us' 25, us' 26, us' 27, us' 28, us' 29, us' 30, us' 31, us' 32, us' 33, us' 34, us' 35, us' 36, us' 37, us' 38, us' 39, us' 40, us' 41, us' 42, us' 43, us' 44, us' 45, us' 46, us' 47, us' 48, us' 49, us' 50, us' 51, us' 52, us' 53, us' 54, us' 55, us' 56, us' 57, us' 58, us' 59, us' 60, us' 61, us' 62, us' 63, us' 64, us' 65, us' 66, us' 67, us' 68, us' 69, us' 70, us' 71, us' 72, us' 73, us' 74, us' 75, us' 76, us' 77, us' 78, us' 79, us' 80, us' 81, us' 82, us' 83, us' 84, us' 85, us' 86, us' 87, us' 88, us' 89, us' 90, us' 91, us' 92, us' 93, us' 94, us' 95, us' 96, us' 97, us' 98, us' 99, us' 100, us' 101, us' 102, us' 103, us' 104, us' 105, us' 106, us' 107, us' 108, us' 109, us' 110, us' 111, us' 112, us' 113, us' 114, us' 115, us' 116, us' 117, us' 118, us' 119, us' 120, us' 121, us' 122, us' 123, us' 124, us' 125, us' 126, us' 127, us' 128, us' 129, us' 130, us' 131, us' 132, us' 133, us' 134, us' 135, us' 136, us' 137, us' 138, us' 139, us' 140, us' 141, us' 142, us' 143, us' 144, us' 145, us' 146, us' 147, us' 148, us' 149, us' 150, us' 151, us' 152, us' 153, us' 154, us' 155, us' 156, us' 157, us' 158, us' 159, us' 160, us' 161, us' 162, us' 163, us' 164, us' 165, us' 166, us' 167, us' 168, us' 169, us' 170, us' 171, us' 172, us' 173, us' 174, us' 175, us' 176, us' 177, us' 178, us' 179, us' 180, us' 181, us' 182, us' 183, us' 184, us' 185, us' 186, us' 187, us' 188, us' 189, us' 190, us' 191, us' 192, us' 193, us' 194, us' 195, us' 196, us' 197, us' 198, us' 199, us' 200, us' 201, us' 202, us' 203, us' 204, us' 205, us' 206, us' 207, us' 208, us' 209, us' 210, us' 211, us' 212, us' 213, us' 214, us' 215, us' 216, us' 217, us' 218] := by
          show #[us' 0, us' 1, us' 2, us' 3, us' 4, us' 5, us' 6, us' 7, us' 8, us' 9, us' 10, us' 11, us' 12, us' 13, us' 14, us' 15, us' 16, us' 17, us' 18, us' 19, us' 20, us' 21, us' 22, us' 23, us' 24, us' 25, us' 26, us' 27, us' 28, us' 29, us' 30, us' 31, us' 32, us' 33, us' 34, us' 35, us' 36, us' 37, us' 38, us' 39, us' 40, us' 41, us' 42, us' 43, us' 44, us' 45, us' 46, us' 47, us' 48, us' 49, us' 50, us' 51, us' 52, us' 53, us' 54, us' 55, us' 56, us' 57, us' 58, us' 59, us' 60, us' 61, us' 62, us' 63, us' 64, us' 65, us' 66, us' 67, us' 68, us' 69, us' 70, us' 71, us' 72, us' 73, us' 74, us' 75, us' 76, us' 77, us' 78, us' 79, us' 80, us' 81, us' 82, us' 83, us' 84, us' 85, us' 86, us' 87, us' 88, us' 89, us' 90, us' 91, us' 92, us' 93, us' 94, us' 95, us' 96, us' 97, us' 98, us' 99, us' 100, us' 101, us' 102, us' 103, us' 104, us' 105, us' 106, us' 107, us' 108, us' 109, us' 110, us' 111, us' 112, us' 113, us' 114, us' 115, us' 116, us' 117, us' 118, us' 119, us' 120, us' 121, us' 122, us' 123, us' 124, us' 125, us' 126, us' 127, us' 128, us' 129, us' 130, us' 131, us' 132, us' 133, us' 134, us' 135, us' 136, us' 137, us' 138, us' 139, us' 140, us' 141, us' 142, us' 143, us' 144, us' 145, us' 146, us' 147, us' 148, us' 149, us' 150, us' 151, us' 152, us' 153, us' 154, us' 155, us' 156, us' 157, us' 158, us' 159, us' 160, us' 161, us' 162, us' 163, us' 164, us' 165, us' 166, us' 167, us' 168, us' 169, us' 170, us' 171, us' 172, us' 173, us' 174, us' 175, us' 176, us' 177, us' 178, us' 179, us' 180, us' 181, us' 182, us' 183, us' 184, us' 185, us' 186, us' 187, us' 188, us' 189, us' 190, us' 191, us' 192, us' 193, us' 194, us' 195, us' 196, us' 197, us' 198, us' 199, us' 200, us' 201, us' 202, us' 203, us' 204, us' 205, us' 206, us' 207, us' 208, us' 209, us' 210, us' 211, us' 212, us' 213, us' 214, us' 215, us' 216, us' 217, us' 218] = _
          rw [t2, t3]
        rw [el] at ha'
        subst ha'
        clear hus t2 t3 el hf' hs' hd'
        have HW := Lib.hid hW
        clear hW
        go_wp2
        exact bodyPost_ret (v := .tuple #[.agg zeroM, .int .i64 5]) (ret_msg rfl _ _ R zeroM _ rfl rfl rfl HW.out.2) rfl (mGetEnd_err HGet.out (HBl.out.trans (HW.out.1.below (fun k hk e => by omega) HBl.out.size)))

set_option maxHeartbeats 8000000 in
set_option maxRecDepth 100000 in
theorem msgget_2 (v : Option Addr) (len c : Nat) (l : List UInt8) (w : World) (hx : Bys w (.slice v len c) l) (hl : l.length ≤ 140737488351232) (hlc : len ≤ c) (q : List UInt8) (hg : gByte l = .ok (2, q)) :
    Calls Try.prog 16 #[.slice v len c] w (MGetEnd l w) := by
  have b1 : Below w.heap.size w (((w.alloc (.cells zeroM 27)).alloc (.cells #[.slice v len c, .int .i64 0, .int .i64 0] 65)).alloc (.cells #[.pointer (some ⟨w.heap.size + 1, 0, none⟩), .int .i64 0] 67)) := (((Below.refl _ _).alloc (Nat.le_refl _) _).alloc (by simp) _).alloc (by simp only [World.size_alloc]; omega) _
  have kb := (Blk.newAt (w.alloc (.cells zeroM 27)) 65 _ #[.slice v len c, .int .i64 0, .int .i64 0] (w.heap.size + 1) (by simp) rfl).alloc (.cells #[.pointer (some ⟨w.heap.size + 1, 0, none⟩), .int .i64 0] 67)
  have hA := ref_new (Q := w.heap.size + 1) hx hl hlc (by omega) b1 kb
  have HStart := Lib.hid (show TkAt (((w.alloc (.cells zeroM 27)).alloc (.cells #[.slice v len c, .int .i64 0, .int .i64 0] 65)).alloc (.cells #[.pointer (some ⟨w.heap.size + 1, 0, none⟩), .int .i64 0] 67)) (w.heap.size + 1 + 1) (w.heap.size + 1) w.heap.size v c l (.ok l) ∧ Blk (((w.alloc (.cells zeroM 27)).alloc (.cells #[.slice v len c, .int .i64 0, .int .i64 0] 65)).alloc (.cells #[.pointer (some ⟨w.heap.size + 1, 0, none⟩), .int .i64 0] 67)) w.heap.size 27 zeroM ∧ Below w.heap.size w (((w.alloc (.cells zeroM 27)).alloc (.cells #[.slice v len c, .int .i64 0, .int .i64 0] 65)).alloc (.cells #[.pointer (some ⟨w.heap.size + 1, 0, none⟩), .int .i64 0] 67)) from
    ⟨⟨Blk.newAt _ _ _ _ _ (by simp) rfl, (fun r hr => by cases hr; exact hA), (fun c hc => by cases hc), by simp only [World.size_alloc]; omega, by omega, by omega⟩, ((Blk.new w _ _).alloc _).alloc _, b1⟩)
  clear hx hl hlc b1 kb hA
  go_enter Try.func16, Try.ntmps16
  go_upto_region 2 with fail
  refine world_cut (fun W => TkAt W (w.heap.size + 1 + 1) (w.heap.size + 1) w.heap.size v c l (.ok l) ∧ Blk W w.heap.size 27 zeroM ∧ Below w.heap.size w W) HStart.out ?_
  clear HStart
  rintro w1 ⟨htk, hbr, hbl⟩
  obtain ⟨T, hT⟩ : ∃ T, T = w.heap.size + 1 + 1 := ⟨_, rfl⟩
  obtain ⟨Q, hQ⟩ : ∃ Q, Q = w.heap.size + 1 := ⟨_, rfl⟩
  obtain ⟨R, hR⟩ : ∃ R, R = w.heap.size := ⟨_, rfl⟩
  rw [← hT, ← hQ] at htk
  rw [← hT, ← hQ, ← hR]
  rw [← hR] at hbr
  have hrl : w.heap.size ≤ R := by omega
  have hrq : R < Q := by omega
  have hqt : Q < T := by omega
  have c0 : w1.cell? ⟨T, 0, none⟩ = some (.pointer (some ⟨Q, 0, none⟩)) := by rw [htk.tb.cell]; rfl
  have HTk := Lib.hid htk
  have HBr := Lib.hid hbr
  have HBl := Lib.hid hbl
  clear htk hbr hbl hT hQ hR
  have HN := Lib.hid (show Calls Try.prog 34 #[.pointer (some ⟨Q, 0, none⟩)] w1 fun e w' => e = .returned (.tuple #[.int .u8 2, .int .i64 0]) ∧ RAt w' Q w.heap.size v c l q ∧ Only Q w1 w' from refreadByte_ok (HTk.out.rd l rfl) hg)
  have HByte := Lib.hid hg
  clear hg
  go_wp2_with fail
  refine HN.out.mono ?_
  rintro e w2 ⟨rfl, hr2, ho2⟩
  have htk2 : TkAt w2 T Q w.heap.size v c l (.ok q) := ⟨HTk.out.tb.onlyR ho2 (by omega), (fun r hr => by cases hr; exact hr2), (fun c hc => by cases hc), Nat.lt_of_lt_of_le HTk.out.ql ho2.size, HTk.out.gq, hqt⟩
  have HTk2 := Lib.hid htk2
  have HBr2 := Lib.hid (HBr.out.onlyR ho2 (by omega))
  have HBl2 := Lib.hid (HBl.out.trans (ho2.below (by omega) HBl.out.size))
  clear htk2 hr2 ho2 HN HTk HBr HBl c0
  go_wp2_with (refine wpList_store_all rfl 27 (.tmp 7) (.tmp 41) rfl w2.heap.size #[.int .i64 2, .int .u64 0, .int .u64 0, .int .u64 0, .int .u64 0, .int .u64 0, .int .u64 0, .int .u64 0, .bool false, .slice none 0 0, .slice none 0 0, .slice none 0 0] rfl rfl 27 zeroM (Blk.new w2 _ _) (by kernel_rfl) rfl (by kernel_rfl) ?_; intro wz hbz hoz; (have HBz := Lib.hid hbz); (have HOz := Lib.hid hoz); clear hbz hoz)
  have hG0 : GAt w R Q T w2.heap.size v c l (.ok q) #[.int .i64 2, .int .u64 0, .int .u64 0, .int .u64 0, .int .u64 0, .int .u64 0, .int .u64 0, .int .u64 0, .bool false, .slice none 0 0, .slice none 0 0, .slice none 0 0] wz := by
    have h1 := HTk2.out.tl
    have h2 := HTk2.out.ql
    have h3 := HBr2.out.lt
    have hb := (Below.refl w2.heap.size w2).alloc (Nat.le_refl _) (.cells zeroM 27)
    exact ⟨(HTk2.out.below hb).only HOz.out (fun k hk e => by omega) (by omega) (by omega), (HBr2.out.keep hb).onlyS HOz.out (by omega), HBz.out, (HBl2.out.trans (hb.mono HBl2.out.size)).trans (HOz.out.below (fun k hk e => by have := HBl2.out.size; omega) (by have := HBl2.out.size; simp only [World.size_alloc]; omega)), hrl, hrq, h1⟩
  obtain ⟨Z, hZ⟩ : ∃ Z, Z = w2.heap.size := ⟨_, rfl⟩
  rw [← hZ] at hG0 ⊢
  have HG0 := Lib.hid hG0
  clear hG0 hZ HTk2 HBr2 HBl2 HBz HOz
  refine (tknum_any 1 7 (by decide) (by decide) HG0.out.tk).mono ?_
  rintro e x12 ⟨nf, s12, rfl, hv12, ht12, tk12, ho12⟩
  have HV12 := Lib.hid hv12
  have HT12 := Lib.hid ht12
  have HG12 := Lib.hid (HG0.out.call tk12 ho12)
  clear hv12 ht12 tk12 ho12 HG0
  go_wp2_with (refine wpList_store_fld rfl 22 (.tmp 44) (.tmp 43) rfl Z 1 (.int .u64 (nf : Int)) rfl rfl 27 #[.int .i64 2, .int .u64 0, .int .u64 0, .int .u64 0, .int .u64 0, .int .u64 0, .int .u64 0, .int .u64 0, .bool false, .slice none 0 0, .slice none 0 0, .slice none 0 0] #[.int .i64 2, .int .u64 (nf : Int), .int .u64 0, .int .u64 0, .int .u64 0, .int .u64 0, .int .u64 0, .int .u64 0, .bool false, .slice none 0 0, .slice none 0 0, .slice none 0 0] HG12.out.bz (by simp) rfl (by kernel_rfl) rfl ?_; intro y13 hb ho; (have HG13 := Lib.hid (HG12.out.set hb ho)); clear hb ho HG12)
  refine (tknum_any 1 7 (by decide) (by decide) HG13.out.tk).mono ?_
  rintro e x14 ⟨no, s14, rfl, hv14, ht14, tk14, ho14⟩
  have HV14 := Lib.hid hv14
  have HT14 := Lib.hid ht14
  have HG14 := Lib.hid (HG13.out.call tk14 ho14)
  clear hv14 ht14 tk14 ho14 HG13
  go_wp2_with (refine wpList_store_fld rfl 22 (.tmp 47) (.tmp 46) rfl Z 2 (.int .u64 (no : Int)) rfl rfl 27 #[.int .i64 2, .int .u64 (nf : Int), .int .u64 0, .int .u64 0, .int .u64 0, .int .u64 0, .int .u64 0, .int .u64 0, .bool false, .slice none 0 0, .slice none 0 0, .slice none 0 0] #[.int .i64 2, .int .u64 (nf : Int), .int .u64 (no : Int), .int .u64 0, .int .u64 0, .int .u64 0, .int .u64 0, .int .u64 0, .bool false, .slice none 0 0, .slice none 0 0, .slice none 0 0] HG14.out.bz (by simp) rfl (by kernel_rfl) rfl ?_; intro y15 hb ho; (have HG15 := Lib.hid (HG14.out.set hb ho)); clear hb ho HG14)
  refine (tknum_any 1 4611686018427387904 (by decide) (by decide) HG15.out.tk).mono ?_
  rintro e x16 ⟨nt, s16, rfl, hv16, ht16, tk16, ho16⟩
  have HV16 := Lib.hid hv16
  have HT16 := Lib.hid ht16
  have HG16 := Lib.hid (HG15.out.call tk16 ho16)
  clear hv16 ht16 tk16 ho16 HG15
  go_wp2_with (refine wpList_store_fld rfl 22 (.tmp 50) (.tmp 49) rfl Z 3 (.int .u64 (nt : Int)) rfl rfl 27 #[.int .i64 2, .int .u64 (nf : Int), .int .u64 (no : Int), .int .u64 0, .int .u64 0, .int .u64 0, .int .u64 0, .int .u64 0, .bool false, .slice none 0 0, .slice none 0 0, .slice none 0 0] #[.int .i64 2, .int .u64 (nf : Int), .int .u64 (no : Int), .int .u64 (nt : Int), .int .u64 0, .int .u64 0, .int .u64 0, .int .u64 0, .bool false, .slice none 0 0, .slice none 0 0, .slice none 0 0] HG16.out.bz (by simp) rfl (by kernel_rfl) rfl ?_; intro y17 hb ho; (have HG17 := Lib.hid (HG16.out.set hb ho)); (have cz : y17.cell? ⟨Z, 0, none⟩ = some (.int .i64 2) := by rw [hb.cell]; rfl); clear hb ho HG16)
  refine (tkyes_any HG17.out.tk).mono ?_
  rintro e x18 ⟨yy, s18, rfl, -, ht18, tk18, ho18⟩
  have HT18 := Lib.hid ht18
  have HG18 := Lib.hid (HG17.out.call tk18 ho18)
  clear ht18 tk18 ho18 HG17
  go_upto_region 47 with (refine wpList_store_fld rfl 4 (.tmp 65) (.tmp 64) rfl Z 8 (.bool yy) rfl rfl 27 #[.int .i64 2, .int .u64 (nf : Int), .int .u64 (no : Int), .int .u64 (nt : Int), .int .u64 0, .int .u64 0, .int .u64 0, .int .u64 0, .bool false, .slice none 0 0, .slice none 0 0, .slice none 0 0] #[.int .i64 2, .int .u64 (nf : Int), .int .u64 (no : Int), .int .u64 (nt : Int), .int .u64 0, .int .u64 0, .int .u64 0, .int .u64 0, .bool yy, .slice none 0 0, .slice none 0 0, .slice none 0 0] HG18.out.bz (by simp) rfl (by kernel_rfl) rfl ?_; intro y19 hb ho; (have HG19 := Lib.hid (HG18.out.set hb ho)); clear hb ho HG18)
  have HMsg := Lib.hid (show gMsg l = tag (⟨2, nf, no, nt, 0, 0, 0, 0, yy, [], [], []⟩ : Mg) s18 from (MsgMath.msg_head HByte.out (by omega) HT12.out HT14.out HT16.out).trans (MsgMath.body_2 HT18.out))
  cases s18 with
  | error cc =>
    have hcc := HG19.out.tk.er cc rfl
    have c0 : y19.cell? ⟨T, 0, none⟩ = some (.pointer (some ⟨Q, 0, none⟩)) := by rw [HG19.out.tk.tb.cell]; rfl
    have c1 : y19.cell? ⟨T, 1, none⟩ = some (.int .i64 (cc : Int)) := by rw [HG19.out.tk.tb.cell]; rfl
    have hz : ((cc : Int) == 0) = false := by simp; omega
    have hz2 : ((cc : Int) != 0) = true := by simp; omega
    have HGet := Lib.hid (show getM l = (Mg.zero, cc) from MsgMath.getM_fault HMsg.out)
    go_upto_region 50 with fail
    clear c0 c1
    have hgr := HG19.out
    have h1 := hgr.rl
    have h2 := hgr.rq
    have h3 := hgr.tk.qt
    refine region_by [(213, .is (.agg zeroM)), (214, .is (.pointer (some ⟨T, 0, none⟩))), (215, .is (.pointer (some ⟨T, 0, none⟩))), (216, .is (.pointer (some ⟨T, 1, none⟩))), (217, .is (.int .i64 (cc : Int))), (3, .is (.int .i64 (cc : Int)))] [2, 3] (fun W => OnlyS (fun k => k = R) y19 W ∧ Blk W R 27 zeroM) (by kernel_rfl) (by kernel_rfl) (by kernel_rfl) (by kernel_rfl) (by kernel_rfl) ⟨(OnlyS.refl _ _).drew, hgr.br.keep ((Below.refl _ _).drew)⟩ ?_ ?_
    · refine ⟨?c0, ?c1, ?c2, ?c3, ?c4, ?c5, ?c6, trivial⟩
      case c0 => exact ask_exec (guard_none rfl) (.agg zeroM) rfl rfl (by intro k hk; cases hk; rfl) (fun W hW => by kernel_rfl)
      case c1 => exact ask_copy (guard_none rfl) (.tmp 4) (.inl rfl) (by intro k hk; cases hk; rfl)
      case c2 => exact ask_exec (guard_none rfl) (.pointer (some ⟨T, 0, none⟩)) rfl rfl (by intro k hk; cases hk; rfl) (fun W hW => by kernel_rfl)
      case c3 => exact ask_field (guard_none rfl) _ (.tmp 215) 1 (.pointer (some ⟨T, 0, none⟩)) (.pointer (some ⟨T, 1, none⟩)) rfl rfl (by intro k hk; cases hk; rfl) (fun W => by kernel_rfl)
      case c4 => exact ask_load (guard_none rfl) _ (.tmp 216) (.pointer (some ⟨T, 1, none⟩)) (.int .i64 (cc : Int)) rfl rfl (by intro k hk; cases hk; rfl) (fun W hW => load_err W _ _ (by rw [(hgr.tk.tb.onlyS hW.1 (by omega)).cell]; rfl))
      case c5 => exact ask_store_same (guard_none rfl) 27 (.tmp 2) (.tmp 213) R zeroM rfl rfl rfl rfl (facts_is (by simp [isFact])) (fun W hW => ⟨hW.2.stores 27 _ (by kernel_rfl) rfl (by kernel_rfl), hW.1.trans (setRow_onlyS W R zeroM), hW.2.row _⟩)
      case c6 => exact ask_copy (guard_none rfl) (.tmp 217) (.inr rfl) (by intro k hk; cases hk; rfl)
    · intro a' W hW hd' hs' hf'
      have t2 : a'.tmps.getD 2 undef = .pointer (some ⟨R, 0, none⟩) := hf' 2 rfl
      have t3 : a'.tmps.getD 3 undef = .int .i64 (cc : Int) := hf' 3 rfl
      obtain ⟨us', hus, ha'⟩ := act_open 219 a' hs' hd'
      rw [← hus] at t2 t3
      have el : ((List.range 219).map us').toArray = #[us' 0, us' 1, .pointer (some ⟨R, 0, none⟩), .int .i64 (cc : Int), us' 4, us' 5, us' 6, us' 7, us' 8, us' 9, us' 10, us' 11, us' 12, us' 13, us' 14, us' 15, us' 16, us' 17, us' 18, us' 19, us' 20, us' 21, us' 22, us' 23, us' 24, us' 25, us' 26, us' 27, us' 28, us' 29, us' 30, us' 31, us' 32, us' 33, us' 34, us' 35, us' 36, us' 37, us' 38, us' 39, us' 40, us' 41, us' 42, us' 43, us' 44, us' 45, us' 46, us' 47, us' 48, us' 49, us' 50, us' 51, us' 52, us' 53, us' 54, us' 55, us' 56, us' 57, us' 58, us' 59, us' 60, us' 61, us' 62, us' 63, us' 64, us' 65, us' 66, us' 67, us' 68, us' 69, us' 70, us' 71, us' 72, us' 73, us' 74, us' 75, us' 76, us' 77, us' 78, us' 79, us' 80, us' 81, us' 82, us' 83, us' 84, us' 85, us' 86, us' 87, us' 88, us' 89, us' 90, us' 91, us' 92, us' 93, us' 94, us' 95, us' 96, us' 97, us' 98, us' 99, us' 100, us' 101, us' 102, us' 103, us' 104, us' 105, us' 106, us' 107, us' 108, us' 109, us' 110, us' 111, us' 112, us' 113, us' 114, us' 115, us' 116, us' 117, us' 118, us' 119, us' 120, us' 121, us' 122, us' 123, us' 124, us' 125, us' 126, us' 127, us' 128, us' 129, us' 130, us' 131, us' 132, us' 133, us' 134, us' 135, us' 136, us' 137, us' 138, us' 139, us' 140, us' 141, us' 142, us' 143, us' 144, us' 145, us' 146, us' 147, us' 148, us' 149, us' 150, us' 151, us' 152, us' 153, us' 154, us' 155, us' 156, us' 157, us' 158, us' 159, us' 160, us' 161, us' 162, us' 163, us' 164, us' 165, us' 166, us' 167, us' 168, us' 169, us' 170, us' 171, us' 172, us' 173, us' 174, us' 175, us' 176, us' 177, us' 178, us' 179, us' 180, us' 181, us' 182, us' 183, us' 184, us' 185, us' 186, us' 187, us' 188, us' 189, us' 190, us' 191, us' 192, us' 193, us' 194, us' 195, us' 196, us' 197, us' 198, us' 199, us' 200, us' 201, us' 202, us' 203, us' 204, us' 205, us' 206, us' 207, us' 208, us' 209, us' 210, us' 211, us' 212, us' 213, us' 214, us' 215, us' 216, us' 217, us' 218] := by
        show #[us' 0, us' 1, us' 2, us' 3, us' 4, us' 5, us' 6, us' 7, us' 8, us' 9, us' 10, us' 11, us' 12, us' 13, us' 14, us' 15, us' 16, us' 17, us' 18, us' 19, us' 20, us' 21, us' 22, us' 23, us' 24, us' 25, us' 26, us' 27, us' 28, us' 29, us' 30, us' 31, us' 32, us' 33, us' 34, us' 35, us' 36, us' 37, us' 38, us' 39, us' 40, us' 41, us' 42, us' 43, us' 44, us' 45, us' 46, us' 47, us' 48, us' 49, us' 50, us' 51, us' 52, us' 53, us' 54, us' 55, us' 56, us' 57, us' 58, us' 59, us' 60, us' 61, us' 62, us' 63, us' 64, us' 65, us' 66, us' 67, us' 68, us' 69, us' 70, us' 71, us' 72, us' 73, us' 74, us' 75, us' 76, us' 77, us' 78, us' 79, us' 80, us' 81, us' 82, us' 83, us' 84, us' 85, us' 86, us' 87, us' 88, us' 89, us' 90, us' 91, us' 92, us' 93, us' 94, us' 95, us' 96, us' 97, us' 98, us' 99, us' 100, us' 101, us' 102, us' 103, us' 104, us' 105, us' 106, us' 107, us' 108, us' 109, us' 110, us' 111, us' 112, us' 113, us' 114, us' 115, us' 116, us' 117, us' 118, us' 119, us' 120, us' 121, us' 122, us' 123, us' 124, us' 125, us' 126, us' 127, us' 128, us' 129, us' 130, us' 131, us' 132, us' 133, us' 134, us' 135, us' 136, us' 137, us' 138, us' 139, us' 140, us' 141, us' 142, us' 143, us' 144, us' 145, us' 146, us' 147, us' 148, us' 149, us' 150, us' 151, us' 152, us' 153, us' 154, us' 155, us' 156, us' 157, us' 158, us' 159, us' 160, us' 161, us' 162, us' 163, us' 164, us' 165, us' 166, us' 167, us' 168, us' 169, us' 170, us' 171, us' 172, us' 173, us' 174, us' 175, us' 176, us' 177, us' 178, us' 179, us' 180, us' 181, us' 182, us' 183, us' 184, us' 185, us' 186, us' 187, us' 188, us' 189, us' 190, us' 191, us' 192, us' 193, us' 194, us' 195, us' 196, us' 197, us' 198, us' 199, us' 200, us' 201, us' 202, us' 203, us' 204, us' 205, us' 206, us' 207, us' 208, us' 209, us' 210, us' 211, us' 212, us' 213, us' 214, us' 215, us' 216, us' 217, us' 218] = _
        rw [t2, t3]
      rw [el] at ha'
      subst ha'
      clear hus t2 t3 el hf' hs' hd'
      have HW := Lib.hid hW
      clear hW
      go_wp2
      exact bodyPost_ret (v := .tuple #[.agg zeroM, .int .i64 (cc : Int)]) (ret_msg rfl _ _ R zeroM _ rfl rfl rfl HW.out.2) rfl (mGetEnd_err HGet.out (hgr.bl.trans (HW.out.1.below (fun k hk e => by omega) hgr.bl.size)))
  | ok rr =>
    have c0 : y19.cell? ⟨T, 0, none⟩ = some (.pointer (some ⟨Q, 0, none⟩)) := by rw [HG19.out.tk.tb.cell]; rfl
    have c1 : y19.cell? ⟨T, 1, none⟩ = some (.int .i64 0) := by rw [HG19.out.tk.tb.cell]; rfl
    have HEnd := Lib.hid (refreadEnd_any (HG19.out.tk.rd rr rfl))
    have HRead := Lib.hid (msg_read HMsg.out)
    by_cases hrr : rr = []
    · rw [if_pos hrr] at HEnd
      have HGet := Lib.hid (show getM l = ((⟨2, nf, no, nt, 0, 0, 0, 0, yy, [], [], []⟩ : Mg), 0) by rw [MsgMath.getM_done HMsg.out, if_pos hrr])
      clear hrr
      go_wp2_with fail
      refine HEnd.out.mono ?_
      rintro e we ⟨rfl, hoe⟩
      have HOe := Lib.hid hoe
      have HTe := Lib.hid (HG19.out.tk.tb.onlyR hoe (by have := HG19.out.tk.qt; omega))
      have HZe := Lib.hid (HG19.out.bz.onlyR hoe (by have h1 := HG19.out.tk.qt; have h2 := HG19.out.tz; omega))
      have HRe := Lib.hid (HG19.out.br.onlyR hoe (by have := HG19.out.rq; omega))
      clear hoe c0 c1 HEnd
      have hne := HG19.out.tk.qt
      have hne2 := HG19.out.tz
      have hne3 := HG19.out.rq
      go_wp2_with (first
        | (refine wpList_store_fld rfl 30 (.tmp 207) (.tmp 205) rfl T 1 (.int .i64 ((0 : Nat) : Int)) rfl rfl 67 _ #[.pointer (some ⟨Q, 0, none⟩), .int .i64 0] HTe.out (by simp) rfl (by kernel_rfl) rfl ?_; intro wf hb ho; (have c0 : wf.cell? ⟨T, 0, none⟩ = some (.pointer (some ⟨Q, 0, none⟩)) := by rw [hb.cell]; rfl); (have c1 : wf.cell? ⟨T, 1, none⟩ = some (.int .i64 0) := by rw [hb.cell]; rfl); (have HOf := Lib.hid ho); (have HZf := Lib.hid (HZe.out.onlyS ho (by omega))); (have HRf := Lib.hid (HRe.out.onlyS ho (by omega))); clear hb ho)
        | (refine wpList_load_by rfl 27 (.tmp 7) rfl _ _ rfl (HZf.out.loads 27 _ Try.underlying27 rfl rfl) ?_)
        | (refine wpList_store_all rfl 27 (.tmp 2) (.tmp 218) rfl R #[.int .i64 2, .int .u64 (nf : Int), .int .u64 (no : Int), .int .u64 (nt : Int), .int .u64 0, .int .u64 0, .int .u64 0, .int .u64 0, .bool yy, .slice none 0 0, .slice none 0 0, .slice none 0 0] rfl rfl 27 zeroM HRf.out (by kernel_rfl) rfl (by simp [Value.oneCell']) ?_; intro wh hb ho; (have HBh := Lib.hid hb); (have HOh := Lib.hid ho); clear hb ho))
      have hos : OnlyS (fun k => k = Q ∨ k = T ∨ k = R) y19 wh := ((OnlyS.of_only HOe.out (.inl rfl)).trans (HOf.out.mono fun _ _ e => .inr (.inl e))).trans (HOh.out.mono fun _ _ e => .inr (.inr e))
      have hbl : Below w.heap.size w wh := HG19.out.bl.trans (hos.below (fun k hk e => by have h1 := HG19.out.rl; rcases e with e | e | e <;> omega) HG19.out.bl.size)
      refine bodyPost_ret (v := .tuple #[.agg #[.int .i64 2, .int .u64 (nf : Int), .int .u64 (no : Int), .int .u64 (nt : Int), .int .u64 0, .int .u64 0, .int .u64 0, .int .u64 0, .bool yy, .slice none 0 0, .slice none 0 0, .slice none 0 0], .int .i64 0]) (ret_msg rfl _ _ R #[.int .i64 2, .int .u64 (nf : Int), .int .u64 (no : Int), .int .u64 (nt : Int), .int .u64 0, .int .u64 0, .int .u64 0, .int .u64 0, .bool yy, .slice none 0 0, .slice none 0 0, .slice none 0 0] _ rfl rfl rfl HBh.out) rfl ?_
      unfold MGetEnd
      rw [HGet.out]
      exact ⟨_, _, _, [], rfl, ⟨HRead.out.1, ERow.nil _ _, fun u hu => absurd hu List.not_mem_nil, rfl, World.ownsRow_nil _ _ _ _, World.ownsRow_nil _ _ _ _, by simp, by simp, by simp⟩, hbl⟩
    · rw [if_neg hrr] at HEnd
      have HGet := Lib.hid (show getM l = (Mg.zero, 5) by rw [MsgMath.getM_done HMsg.out, if_neg hrr])
      clear hrr
      go_wp2_with fail
      refine HEnd.out.mono ?_
      rintro e we ⟨rfl, hoe⟩
      have HOe := Lib.hid hoe
      have HTe := Lib.hid (HG19.out.tk.tb.onlyR hoe (by have := HG19.out.tk.qt; omega))
      have HRe := Lib.hid (HG19.out.br.onlyR hoe (by have := HG19.out.rq; omega))
      clear hoe c0 c1 HEnd
      have hne := HG19.out.tk.qt
      have hne2 := HG19.out.tz
      have hne3 := HG19.out.rq
      go_upto_region 50 with (refine wpList_store_fld rfl 30 (.tmp 207) (.tmp 205) rfl T 1 (.int .i64 ((5 : Nat) : Int)) rfl rfl 67 _ #[.pointer (some ⟨Q, 0, none⟩), .int .i64 5] HTe.out (by simp) rfl (by kernel_rfl) rfl ?_; intro wf hb ho; (have c0 : wf.cell? ⟨T, 0, none⟩ = some (.pointer (some ⟨Q, 0, none⟩)) := by rw [hb.cell]; rfl); (have c1 : wf.cell? ⟨T, 1, none⟩ = some (.int .i64 5) := by rw [hb.cell]; rfl); (have HOf := Lib.hid ho); (have HTf := Lib.hid hb); (have HRf := Lib.hid (HRe.out.onlyS ho (by omega))); clear hb ho)
      clear c0 c1
      have hos : OnlyS (fun k => k = Q ∨ k = T) y19 wf := (OnlyS.of_only HOe.out (.inl rfl)).trans (HOf.out.mono fun _ _ e => .inr e)
      have hbl : Below w.heap.size w wf := HG19.out.bl.trans (hos.below (fun k hk e => by have h1 := HG19.out.rl; rcases e with e | e <;> omega) HG19.out.bl.size)
      have HBl := Lib.hid hbl
      have h1 := HG19.out.rl
      clear hos hbl
      refine region_by [(213, .is (.agg zeroM)), (214, .is (.pointer (some ⟨T, 0, none⟩))), (215, .is (.pointer (some ⟨T, 0, none⟩))), (216, .is (.pointer (some ⟨T, 1, none⟩))), (217, .is (.int .i64 5)), (3, .is (.int .i64 5))] [2, 3] (fun W => OnlyS (fun k => k = R) wf W ∧ Blk W R 27 zeroM) (by kernel_rfl) (by kernel_rfl) (by kernel_rfl) (by kernel_rfl) (by kernel_rfl) ⟨(OnlyS.refl _ _).drew, HRf.out.keep ((Below.refl _ _).drew)⟩ ?_ ?_
      · refine ⟨?c0, ?c1, ?c2, ?c3, ?c4, ?c5, ?c6, trivial⟩
        case c0 => exact ask_exec (guard_none rfl) (.agg zeroM) rfl rfl (by intro k hk; cases hk; rfl) (fun W hW => by kernel_rfl)
        case c1 => exact ask_copy (guard_none rfl) (.tmp 4) (.inl rfl) (by intro k hk; cases hk; rfl)
        case c2 => exact ask_exec (guard_none rfl) (.pointer (some ⟨T, 0, none⟩)) rfl rfl (by intro k hk; cases hk; rfl) (fun W hW => by kernel_rfl)
        case c3 => exact ask_field (guard_none rfl) _ (.tmp 215) 1 (.pointer (some ⟨T, 0, none⟩)) (.pointer (some ⟨T, 1, none⟩)) rfl rfl (by intro k hk; cases hk; rfl) (fun W => by kernel_rfl)
        case c4 => exact ask_load (guard_none rfl) _ (.tmp 216) (.pointer (some ⟨T, 1, none⟩)) (.int .i64 5) rfl rfl (by intro k hk; cases hk; rfl) (fun W hW => load_err W _ _ (by rw [(HTf.out.onlyS hW.1 (by omega)).cell]; rfl))
        case c5 => exact ask_store_same (guard_none rfl) 27 (.tmp 2) (.tmp 213) R zeroM rfl rfl rfl rfl (facts_is (by simp [isFact])) (fun W hW => ⟨hW.2.stores 27 _ (by kernel_rfl) rfl (by kernel_rfl), hW.1.trans (setRow_onlyS W R zeroM), hW.2.row _⟩)
        case c6 => exact ask_copy (guard_none rfl) (.tmp 217) (.inr rfl) (by intro k hk; cases hk; rfl)
      · intro a' W hW hd' hs' hf'
        have t2 : a'.tmps.getD 2 undef = .pointer (some ⟨R, 0, none⟩) := hf' 2 rfl
        have t3 : a'.tmps.getD 3 undef = .int .i64 5 := hf' 3 rfl
        obtain ⟨us', hus, ha'⟩ := act_open 219 a' hs' hd'
        rw [← hus] at t2 t3
        have el : ((List.range 219).map us').toArray = #[us' 0, us' 1, .pointer (some ⟨R, 0, none⟩), .int .i64 5, us' 4, us' 5, us' 6, us' 7, us' 8, us' 9, us' 10, us' 11, us' 12, us' 13, us' 14, us' 15, us' 16, us' 17, us' 18, us' 19, us' 20, us' 21, us' 22, us' 23, us' 24, us' 25, us' 26, us' 27, us' 28, us' 29, us' 30, us' 31, us' 32, us' 33, us' 34, us' 35, us' 36, us' 37, us' 38, us' 39, us' 40, us' 41, us' 42, us' 43, us' 44, us' 45, us' 46, us' 47, us' 48, us' 49, us' 50, us' 51, us' 52, us' 53, us' 54, us' 55, us' 56, us' 57, us' 58, us' 59, us' 60, us' 61, us' 62, us' 63, us' 64, us' 65, us' 66, us' 67, us' 68, us' 69, us' 70, us' 71, us' 72, us' 73, us' 74, us' 75, us' 76, us' 77, us' 78, us' 79, us' 80, us' 81, us' 82, us' 83, us' 84, us' 85, us' 86, us' 87, us' 88, us' 89, us' 90, us' 91, us' 92, us' 93, us' 94, us' 95, us' 96, us' 97, us' 98, us' 99, us' 100, us' 101, us' 102, us' 103, us' 104, us' 105, us' 106, us' 107, us' 108, us' 109, us' 110, us' 111, us' 112, us' 113, us' 114, us' 115, us' 116, us' 117, us' 118, us' 119, us' 120, us' 121, us' 122, us' 123, us' 124, us' 125, us' 126, us' 127, us' 128, us' 129, us' 130, us' 131, us' 132, us' 133, us' 134, us' 135, us' 136, us' 137, us' 138, us' 139, us' 140, us' 141, us' 142, us' 143, us' 144, us' 145, us' 146, us' 147, us' 148, us' 149, us' 150, us' 151, us' 152, us' 153, us' 154, us' 155, us' 156, us' 157, us' 158, us' 159, us' 160, us' 161, us' 162, us' 163, us' 164, us' 165, us' 166, us' 167, us' 168, us' 169, us' 170, us' 171, us' 172, us' 173, us' 174, us' 175, us' 176, us' 177, us' 178, us' 179, us' 180, us' 181, us' 182, us' 183, us' 184, us' 185, us' 186, us' 187, us' 188, us' 189, us' 190, us' 191, us' 192, us' 193, us' 194, us' 195, us' 196, us' 197, us' 198, us' 199, us' 200, us' 201, us' 202, us' 203, us' 204, us' 205, us' 206, us' 207, us' 208, us' 209, us' 210, us' 211, us' 212, us' 213, us' 214, us' 215, us' 216, us' 217, us' 218] := by
          show #[us' 0, us' 1, us' 2, us' 3, us' 4, us' 5, us' 6, us' 7, us' 8, us' 9, us' 10, us' 11, us' 12, us' 13, us' 14, us' 15, us' 16, us' 17, us' 18, us' 19, us' 20, us' 21, us' 22, us' 23, us' 24, us' 25, us' 26, us' 27, us' 28, us' 29, us' 30, us' 31, us' 32, us' 33, us' 34, us' 35, us' 36, us' 37, us' 38, us' 39, us' 40, us' 41, us' 42, us' 43, us' 44, us' 45, us' 46, us' 47, us' 48, us' 49, us' 50, us' 51, us' 52, us' 53, us' 54, us' 55, us' 56, us' 57, us' 58, us' 59, us' 60, us' 61, us' 62, us' 63, us' 64, us' 65, us' 66, us' 67, us' 68, us' 69, us' 70, us' 71, us' 72, us' 73, us' 74, us' 75, us' 76, us' 77, us' 78, us' 79, us' 80, us' 81, us' 82, us' 83, us' 84, us' 85, us' 86, us' 87, us' 88, us' 89, us' 90, us' 91, us' 92, us' 93, us' 94, us' 95, us' 96, us' 97, us' 98, us' 99, us' 100, us' 101, us' 102, us' 103, us' 104, us' 105, us' 106, us' 107, us' 108, us' 109, us' 110, us' 111, us' 112, us' 113, us' 114, us' 115, us' 116, us' 117, us' 118, us' 119, us' 120, us' 121, us' 122, us' 123, us' 124, us' 125, us' 126, us' 127, us' 128, us' 129, us' 130, us' 131, us' 132, us' 133, us' 134, us' 135, us' 136, us' 137, us' 138, us' 139, us' 140, us' 141, us' 142, us' 143, us' 144, us' 145, us' 146, us' 147, us' 148, us' 149, us' 150, us' 151, us' 152, us' 153, us' 154, us' 155, us' 156, us' 157, us' 158, us' 159, us' 160, us' 161, us' 162, us' 163, us' 164, us' 165, us' 166, us' 167, us' 168, us' 169, us' 170, us' 171, us' 172, us' 173, us' 174, us' 175, us' 176, us' 177, us' 178, us' 179, us' 180, us' 181, us' 182, us' 183, us' 184, us' 185, us' 186, us' 187, us' 188, us' 189, us' 190, us' 191, us' 192, us' 193, us' 194, us' 195, us' 196, us' 197, us' 198, us' 199, us' 200, us' 201, us' 202, us' 203, us' 204, us' 205, us' 206, us' 207, us' 208, us' 209, us' 210, us' 211, us' 212, us' 213, us' 214, us' 215, us' 216, us' 217, us' 218] = _
          rw [t2, t3]
        rw [el] at ha'
        subst ha'
        clear hus t2 t3 el hf' hs' hd'
        have HW := Lib.hid hW
        clear hW
        go_wp2
        exact bodyPost_ret (v := .tuple #[.agg zeroM, .int .i64 5]) (ret_msg rfl _ _ R zeroM _ rfl rfl rfl HW.out.2) rfl (mGetEnd_err HGet.out (HBl.out.trans (HW.out.1.below (fun k hk e => by omega) HBl.out.size)))

set_option maxHeartbeats 8000000 in
set_option maxRecDepth 100000 in
theorem msgget_4 (v : Option Addr) (len c : Nat) (l : List UInt8) (w : World) (hx : Bys w (.slice v len c) l) (hl : l.length ≤ 140737488351232) (hlc : len ≤ c) (q : List UInt8) (hg : gByte l = .ok (4, q)) :
    Calls Try.prog 16 #[.slice v len c] w (MGetEnd l w) := by
  have b1 : Below w.heap.size w (((w.alloc (.cells zeroM 27)).alloc (.cells #[.slice v len c, .int .i64 0, .int .i64 0] 65)).alloc (.cells #[.pointer (some ⟨w.heap.size + 1, 0, none⟩), .int .i64 0] 67)) := (((Below.refl _ _).alloc (Nat.le_refl _) _).alloc (by simp) _).alloc (by simp only [World.size_alloc]; omega) _
  have kb := (Blk.newAt (w.alloc (.cells zeroM 27)) 65 _ #[.slice v len c, .int .i64 0, .int .i64 0] (w.heap.size + 1) (by simp) rfl).alloc (.cells #[.pointer (some ⟨w.heap.size + 1, 0, none⟩), .int .i64 0] 67)
  have hA := ref_new (Q := w.heap.size + 1) hx hl hlc (by omega) b1 kb
  have HStart := Lib.hid (show TkAt (((w.alloc (.cells zeroM 27)).alloc (.cells #[.slice v len c, .int .i64 0, .int .i64 0] 65)).alloc (.cells #[.pointer (some ⟨w.heap.size + 1, 0, none⟩), .int .i64 0] 67)) (w.heap.size + 1 + 1) (w.heap.size + 1) w.heap.size v c l (.ok l) ∧ Blk (((w.alloc (.cells zeroM 27)).alloc (.cells #[.slice v len c, .int .i64 0, .int .i64 0] 65)).alloc (.cells #[.pointer (some ⟨w.heap.size + 1, 0, none⟩), .int .i64 0] 67)) w.heap.size 27 zeroM ∧ Below w.heap.size w (((w.alloc (.cells zeroM 27)).alloc (.cells #[.slice v len c, .int .i64 0, .int .i64 0] 65)).alloc (.cells #[.pointer (some ⟨w.heap.size + 1, 0, none⟩), .int .i64 0] 67)) from
    ⟨⟨Blk.newAt _ _ _ _ _ (by simp) rfl, (fun r hr => by cases hr; exact hA), (fun c hc => by cases hc), by simp only [World.size_alloc]; omega, by omega, by omega⟩, ((Blk.new w _ _).alloc _).alloc _, b1⟩)
  clear hx hl hlc b1 kb hA
  go_enter Try.func16, Try.ntmps16
  go_upto_region 2 with fail
  refine world_cut (fun W => TkAt W (w.heap.size + 1 + 1) (w.heap.size + 1) w.heap.size v c l (.ok l) ∧ Blk W w.heap.size 27 zeroM ∧ Below w.heap.size w W) HStart.out ?_
  clear HStart
  rintro w1 ⟨htk, hbr, hbl⟩
  obtain ⟨T, hT⟩ : ∃ T, T = w.heap.size + 1 + 1 := ⟨_, rfl⟩
  obtain ⟨Q, hQ⟩ : ∃ Q, Q = w.heap.size + 1 := ⟨_, rfl⟩
  obtain ⟨R, hR⟩ : ∃ R, R = w.heap.size := ⟨_, rfl⟩
  rw [← hT, ← hQ] at htk
  rw [← hT, ← hQ, ← hR]
  rw [← hR] at hbr
  have hrl : w.heap.size ≤ R := by omega
  have hrq : R < Q := by omega
  have hqt : Q < T := by omega
  have c0 : w1.cell? ⟨T, 0, none⟩ = some (.pointer (some ⟨Q, 0, none⟩)) := by rw [htk.tb.cell]; rfl
  have HTk := Lib.hid htk
  have HBr := Lib.hid hbr
  have HBl := Lib.hid hbl
  clear htk hbr hbl hT hQ hR
  have HN := Lib.hid (show Calls Try.prog 34 #[.pointer (some ⟨Q, 0, none⟩)] w1 fun e w' => e = .returned (.tuple #[.int .u8 4, .int .i64 0]) ∧ RAt w' Q w.heap.size v c l q ∧ Only Q w1 w' from refreadByte_ok (HTk.out.rd l rfl) hg)
  have HByte := Lib.hid hg
  clear hg
  go_wp2_with fail
  refine HN.out.mono ?_
  rintro e w2 ⟨rfl, hr2, ho2⟩
  have htk2 : TkAt w2 T Q w.heap.size v c l (.ok q) := ⟨HTk.out.tb.onlyR ho2 (by omega), (fun r hr => by cases hr; exact hr2), (fun c hc => by cases hc), Nat.lt_of_lt_of_le HTk.out.ql ho2.size, HTk.out.gq, hqt⟩
  have HTk2 := Lib.hid htk2
  have HBr2 := Lib.hid (HBr.out.onlyR ho2 (by omega))
  have HBl2 := Lib.hid (HBl.out.trans (ho2.below (by omega) HBl.out.size))
  clear htk2 hr2 ho2 HN HTk HBr HBl c0
  go_wp2_with (refine wpList_store_all rfl 27 (.tmp 7) (.tmp 41) rfl w2.heap.size #[.int .i64 4, .int .u64 0, .int .u64 0, .int .u64 0, .int .u64 0, .int .u64 0, .int .u64 0, .int .u64 0, .bool false, .slice none 0 0, .slice none 0 0, .slice none 0 0] rfl rfl 27 zeroM (Blk.new w2 _ _) (by kernel_rfl) rfl (by kernel_rfl) ?_; intro wz hbz hoz; (have HBz := Lib.hid hbz); (have HOz := Lib.hid hoz); clear hbz hoz)
  have hG0 : GAt w R Q T w2.heap.size v c l (.ok q) #[.int .i64 4, .int .u64 0, .int .u64 0, .int .u64 0, .int .u64 0, .int .u64 0, .int .u64 0, .int .u64 0, .bool false, .slice none 0 0, .slice none 0 0, .slice none 0 0] wz := by
    have h1 := HTk2.out.tl
    have h2 := HTk2.out.ql
    have h3 := HBr2.out.lt
    have hb := (Below.refl w2.heap.size w2).alloc (Nat.le_refl _) (.cells zeroM 27)
    exact ⟨(HTk2.out.below hb).only HOz.out (fun k hk e => by omega) (by omega) (by omega), (HBr2.out.keep hb).onlyS HOz.out (by omega), HBz.out, (HBl2.out.trans (hb.mono HBl2.out.size)).trans (HOz.out.below (fun k hk e => by have := HBl2.out.size; omega) (by have := HBl2.out.size; simp only [World.size_alloc]; omega)), hrl, hrq, h1⟩
  obtain ⟨Z, hZ⟩ : ∃ Z, Z = w2.heap.size := ⟨_, rfl⟩
  rw [← hZ] at hG0 ⊢
  have HG0 := Lib.hid hG0
  clear hG0 hZ HTk2 HBr2 HBl2 HBz HOz
  refine (tknum_any 1 7 (by decide) (by decide) HG0.out.tk).mono ?_
  rintro e x21 ⟨nf, s21, rfl, hv21, ht21, tk21, ho21⟩
  have HV21 := Lib.hid hv21
  have HT21 := Lib.hid ht21
  have HG21 := Lib.hid (HG0.out.call tk21 ho21)
  clear hv21 ht21 tk21 ho21 HG0
  go_wp2_with (refine wpList_store_fld rfl 22 (.tmp 44) (.tmp 43) rfl Z 1 (.int .u64 (nf : Int)) rfl rfl 27 #[.int .i64 4, .int .u64 0, .int .u64 0, .int .u64 0, .int .u64 0, .int .u64 0, .int .u64 0, .int .u64 0, .bool false, .slice none 0 0, .slice none 0 0, .slice none 0 0] #[.int .i64 4, .int .u64 (nf : Int), .int .u64 0, .int .u64 0, .int .u64 0, .int .u64 0, .int .u64 0, .int .u64 0, .bool false, .slice none 0 0, .slice none 0 0, .slice none 0 0] HG21.out.bz (by simp) rfl (by kernel_rfl) rfl ?_; intro y22 hb ho; (have HG22 := Lib.hid (HG21.out.set hb ho)); clear hb ho HG21)
  refine (tknum_any 1 7 (by decide) (by decide) HG22.out.tk).mono ?_
  rintro e x23 ⟨no, s23, rfl, hv23, ht23, tk23, ho23⟩
  have HV23 := Lib.hid hv23
  have HT23 := Lib.hid ht23
  have HG23 := Lib.hid (HG22.out.call tk23 ho23)
  clear hv23 ht23 tk23 ho23 HG22
  go_wp2_with (refine wpList_store_fld rfl 22 (.tmp 47) (.tmp 46) rfl Z 2 (.int .u64 (no : Int)) rfl rfl 27 #[.int .i64 4, .int .u64 (nf : Int), .int .u64 0, .int .u64 0, .int .u64 0, .int .u64 0, .int .u64 0, .int .u64 0, .bool false, .slice none 0 0, .slice none 0 0, .slice none 0 0] #[.int .i64 4, .int .u64 (nf : Int), .int .u64 (no : Int), .int .u64 0, .int .u64 0, .int .u64 0, .int .u64 0, .int .u64 0, .bool false, .slice none 0 0, .slice none 0 0, .slice none 0 0] HG23.out.bz (by simp) rfl (by kernel_rfl) rfl ?_; intro y24 hb ho; (have HG24 := Lib.hid (HG23.out.set hb ho)); clear hb ho HG23)
  refine (tknum_any 1 4611686018427387904 (by decide) (by decide) HG24.out.tk).mono ?_
  rintro e x25 ⟨nt, s25, rfl, hv25, ht25, tk25, ho25⟩
  have HV25 := Lib.hid hv25
  have HT25 := Lib.hid ht25
  have HG25 := Lib.hid (HG24.out.call tk25 ho25)
  clear hv25 ht25 tk25 ho25 HG24
  go_wp2_with (refine wpList_store_fld rfl 22 (.tmp 50) (.tmp 49) rfl Z 3 (.int .u64 (nt : Int)) rfl rfl 27 #[.int .i64 4, .int .u64 (nf : Int), .int .u64 (no : Int), .int .u64 0, .int .u64 0, .int .u64 0, .int .u64 0, .int .u64 0, .bool false, .slice none 0 0, .slice none 0 0, .slice none 0 0] #[.int .i64 4, .int .u64 (nf : Int), .int .u64 (no : Int), .int .u64 (nt : Int), .int .u64 0, .int .u64 0, .int .u64 0, .int .u64 0, .bool false, .slice none 0 0, .slice none 0 0, .slice none 0 0] HG25.out.bz (by simp) rfl (by kernel_rfl) rfl ?_; intro y26 hb ho; (have HG26 := Lib.hid (HG25.out.set hb ho)); (have cz : y26.cell? ⟨Z, 0, none⟩ = some (.int .i64 4) := by rw [hb.cell]; rfl); clear hb ho HG25)
  refine (tkyes_any HG26.out.tk).mono ?_
  rintro e x27 ⟨yy, s27, rfl, -, ht27, tk27, ho27⟩
  have HT27 := Lib.hid ht27
  have HG27 := Lib.hid (HG26.out.call tk27 ho27)
  clear ht27 tk27 ho27 HG26
  go_wp2_with (refine wpList_store_fld rfl 4 (.tmp 141) (.tmp 140) rfl Z 8 (.bool yy) rfl rfl 27 #[.int .i64 4, .int .u64 (nf : Int), .int .u64 (no : Int), .int .u64 (nt : Int), .int .u64 0, .int .u64 0, .int .u64 0, .int .u64 0, .bool false, .slice none 0 0, .slice none 0 0, .slice none 0 0] #[.int .i64 4, .int .u64 (nf : Int), .int .u64 (no : Int), .int .u64 (nt : Int), .int .u64 0, .int .u64 0, .int .u64 0, .int .u64 0, .bool yy, .slice none 0 0, .slice none 0 0, .slice none 0 0] HG27.out.bz (by simp) rfl (by kernel_rfl) rfl ?_; intro y28 hb ho; (have HG28 := Lib.hid (HG27.out.set hb ho)); clear hb ho HG27)
  refine (tknum_any 0 4611686018427387904 (by decide) (by decide) HG28.out.tk).mono ?_
  rintro e x29 ⟨ni, s29, rfl, hv29, ht29, tk29, ho29⟩
  have HV29 := Lib.hid hv29
  have HT29 := Lib.hid ht29
  have HG29 := Lib.hid (HG28.out.call tk29 ho29)
  clear hv29 ht29 tk29 ho29 HG28
  go_wp2_with (refine wpList_store_fld rfl 22 (.tmp 144) (.tmp 143) rfl Z 4 (.int .u64 (ni : Int)) rfl rfl 27 #[.int .i64 4, .int .u64 (nf : Int), .int .u64 (no : Int), .int .u64 (nt : Int), .int .u64 0, .int .u64 0, .int .u64 0, .int .u64 0, .bool yy, .slice none 0 0, .slice none 0 0, .slice none 0 0] #[.int .i64 4, .int .u64 (nf : Int), .int .u64 (no : Int), .int .u64 (nt : Int), .int .u64 (ni : Int), .int .u64 0, .int .u64 0, .int .u64 0, .bool yy, .slice none 0 0, .slice none 0 0, .slice none 0 0] HG29.out.bz (by simp) rfl (by kernel_rfl) rfl ?_; intro y30 hb ho; (have HG30 := Lib.hid (HG29.out.set hb ho)); clear hb ho HG29)
  refine (tknum_any 0 18446744073709551615 (by decide) (by decide) HG30.out.tk).mono ?_
  rintro e x31 ⟨ns, s31, rfl, hv31, ht31, tk31, ho31⟩
  have HV31 := Lib.hid hv31
  have HT31 := Lib.hid ht31
  have HG31 := Lib.hid (HG30.out.call tk31 ho31)
  clear hv31 ht31 tk31 ho31 HG30
  go_upto_region 47 with (refine wpList_store_fld rfl 22 (.tmp 148) (.tmp 147) rfl Z 7 (.int .u64 (ns : Int)) rfl rfl 27 #[.int .i64 4, .int .u64 (nf : Int), .int .u64 (no : Int), .int .u64 (nt : Int), .int .u64 (ni : Int), .int .u64 0, .int .u64 0, .int .u64 0, .bool yy, .slice none 0 0, .slice none 0 0, .slice none 0 0] #[.int .i64 4, .int .u64 (nf : Int), .int .u64 (no : Int), .int .u64 (nt : Int), .int .u64 (ni : Int), .int .u64 0, .int .u64 0, .int .u64 (ns : Int), .bool yy, .slice none 0 0, .slice none 0 0, .slice none 0 0] HG31.out.bz (by simp) rfl (by kernel_rfl) rfl ?_; intro y32 hb ho; (have HG32 := Lib.hid (HG31.out.set hb ho)); clear hb ho HG31)
  have HMsg := Lib.hid (show gMsg l = tag (⟨4, nf, no, nt, ni, 0, 0, ns, yy, [], [], []⟩ : Mg) s31 from (MsgMath.msg_head HByte.out (by omega) HT21.out HT23.out HT25.out).trans (MsgMath.body_4 HT27.out HT29.out HT31.out))
  cases s31 with
  | error cc =>
    have hcc := HG32.out.tk.er cc rfl
    have c0 : y32.cell? ⟨T, 0, none⟩ = some (.pointer (some ⟨Q, 0, none⟩)) := by rw [HG32.out.tk.tb.cell]; rfl
    have c1 : y32.cell? ⟨T, 1, none⟩ = some (.int .i64 (cc : Int)) := by rw [HG32.out.tk.tb.cell]; rfl
    have hz : ((cc : Int) == 0) = false := by simp; omega
    have hz2 : ((cc : Int) != 0) = true := by simp; omega
    have HGet := Lib.hid (show getM l = (Mg.zero, cc) from MsgMath.getM_fault HMsg.out)
    go_upto_region 50 with fail
    clear c0 c1
    have hgr := HG32.out
    have h1 := hgr.rl
    have h2 := hgr.rq
    have h3 := hgr.tk.qt
    refine region_by [(213, .is (.agg zeroM)), (214, .is (.pointer (some ⟨T, 0, none⟩))), (215, .is (.pointer (some ⟨T, 0, none⟩))), (216, .is (.pointer (some ⟨T, 1, none⟩))), (217, .is (.int .i64 (cc : Int))), (3, .is (.int .i64 (cc : Int)))] [2, 3] (fun W => OnlyS (fun k => k = R) y32 W ∧ Blk W R 27 zeroM) (by kernel_rfl) (by kernel_rfl) (by kernel_rfl) (by kernel_rfl) (by kernel_rfl) ⟨(OnlyS.refl _ _).drew, hgr.br.keep ((Below.refl _ _).drew)⟩ ?_ ?_
    · refine ⟨?c0, ?c1, ?c2, ?c3, ?c4, ?c5, ?c6, trivial⟩
      case c0 => exact ask_exec (guard_none rfl) (.agg zeroM) rfl rfl (by intro k hk; cases hk; rfl) (fun W hW => by kernel_rfl)
      case c1 => exact ask_copy (guard_none rfl) (.tmp 4) (.inl rfl) (by intro k hk; cases hk; rfl)
      case c2 => exact ask_exec (guard_none rfl) (.pointer (some ⟨T, 0, none⟩)) rfl rfl (by intro k hk; cases hk; rfl) (fun W hW => by kernel_rfl)
      case c3 => exact ask_field (guard_none rfl) _ (.tmp 215) 1 (.pointer (some ⟨T, 0, none⟩)) (.pointer (some ⟨T, 1, none⟩)) rfl rfl (by intro k hk; cases hk; rfl) (fun W => by kernel_rfl)
      case c4 => exact ask_load (guard_none rfl) _ (.tmp 216) (.pointer (some ⟨T, 1, none⟩)) (.int .i64 (cc : Int)) rfl rfl (by intro k hk; cases hk; rfl) (fun W hW => load_err W _ _ (by rw [(hgr.tk.tb.onlyS hW.1 (by omega)).cell]; rfl))
      case c5 => exact ask_store_same (guard_none rfl) 27 (.tmp 2) (.tmp 213) R zeroM rfl rfl rfl rfl (facts_is (by simp [isFact])) (fun W hW => ⟨hW.2.stores 27 _ (by kernel_rfl) rfl (by kernel_rfl), hW.1.trans (setRow_onlyS W R zeroM), hW.2.row _⟩)
      case c6 => exact ask_copy (guard_none rfl) (.tmp 217) (.inr rfl) (by intro k hk; cases hk; rfl)
    · intro a' W hW hd' hs' hf'
      have t2 : a'.tmps.getD 2 undef = .pointer (some ⟨R, 0, none⟩) := hf' 2 rfl
      have t3 : a'.tmps.getD 3 undef = .int .i64 (cc : Int) := hf' 3 rfl
      obtain ⟨us', hus, ha'⟩ := act_open 219 a' hs' hd'
      rw [← hus] at t2 t3
      have el : ((List.range 219).map us').toArray = #[us' 0, us' 1, .pointer (some ⟨R, 0, none⟩), .int .i64 (cc : Int), us' 4, us' 5, us' 6, us' 7, us' 8, us' 9, us' 10, us' 11, us' 12, us' 13, us' 14, us' 15, us' 16, us' 17, us' 18, us' 19, us' 20, us' 21, us' 22, us' 23, us' 24, us' 25, us' 26, us' 27, us' 28, us' 29, us' 30, us' 31, us' 32, us' 33, us' 34, us' 35, us' 36, us' 37, us' 38, us' 39, us' 40, us' 41, us' 42, us' 43, us' 44, us' 45, us' 46, us' 47, us' 48, us' 49, us' 50, us' 51, us' 52, us' 53, us' 54, us' 55, us' 56, us' 57, us' 58, us' 59, us' 60, us' 61, us' 62, us' 63, us' 64, us' 65, us' 66, us' 67, us' 68, us' 69, us' 70, us' 71, us' 72, us' 73, us' 74, us' 75, us' 76, us' 77, us' 78, us' 79, us' 80, us' 81, us' 82, us' 83, us' 84, us' 85, us' 86, us' 87, us' 88, us' 89, us' 90, us' 91, us' 92, us' 93, us' 94, us' 95, us' 96, us' 97, us' 98, us' 99, us' 100, us' 101, us' 102, us' 103, us' 104, us' 105, us' 106, us' 107, us' 108, us' 109, us' 110, us' 111, us' 112, us' 113, us' 114, us' 115, us' 116, us' 117, us' 118, us' 119, us' 120, us' 121, us' 122, us' 123, us' 124, us' 125, us' 126, us' 127, us' 128, us' 129, us' 130, us' 131, us' 132, us' 133, us' 134, us' 135, us' 136, us' 137, us' 138, us' 139, us' 140, us' 141, us' 142, us' 143, us' 144, us' 145, us' 146, us' 147, us' 148, us' 149, us' 150, us' 151, us' 152, us' 153, us' 154, us' 155, us' 156, us' 157, us' 158, us' 159, us' 160, us' 161, us' 162, us' 163, us' 164, us' 165, us' 166, us' 167, us' 168, us' 169, us' 170, us' 171, us' 172, us' 173, us' 174, us' 175, us' 176, us' 177, us' 178, us' 179, us' 180, us' 181, us' 182, us' 183, us' 184, us' 185, us' 186, us' 187, us' 188, us' 189, us' 190, us' 191, us' 192, us' 193, us' 194, us' 195, us' 196, us' 197, us' 198, us' 199, us' 200, us' 201, us' 202, us' 203, us' 204, us' 205, us' 206, us' 207, us' 208, us' 209, us' 210, us' 211, us' 212, us' 213, us' 214, us' 215, us' 216, us' 217, us' 218] := by
        show #[us' 0, us' 1, us' 2, us' 3, us' 4, us' 5, us' 6, us' 7, us' 8, us' 9, us' 10, us' 11, us' 12, us' 13, us' 14, us' 15, us' 16, us' 17, us' 18, us' 19, us' 20, us' 21, us' 22, us' 23, us' 24, us' 25, us' 26, us' 27, us' 28, us' 29, us' 30, us' 31, us' 32, us' 33, us' 34, us' 35, us' 36, us' 37, us' 38, us' 39, us' 40, us' 41, us' 42, us' 43, us' 44, us' 45, us' 46, us' 47, us' 48, us' 49, us' 50, us' 51, us' 52, us' 53, us' 54, us' 55, us' 56, us' 57, us' 58, us' 59, us' 60, us' 61, us' 62, us' 63, us' 64, us' 65, us' 66, us' 67, us' 68, us' 69, us' 70, us' 71, us' 72, us' 73, us' 74, us' 75, us' 76, us' 77, us' 78, us' 79, us' 80, us' 81, us' 82, us' 83, us' 84, us' 85, us' 86, us' 87, us' 88, us' 89, us' 90, us' 91, us' 92, us' 93, us' 94, us' 95, us' 96, us' 97, us' 98, us' 99, us' 100, us' 101, us' 102, us' 103, us' 104, us' 105, us' 106, us' 107, us' 108, us' 109, us' 110, us' 111, us' 112, us' 113, us' 114, us' 115, us' 116, us' 117, us' 118, us' 119, us' 120, us' 121, us' 122, us' 123, us' 124, us' 125, us' 126, us' 127, us' 128, us' 129, us' 130, us' 131, us' 132, us' 133, us' 134, us' 135, us' 136, us' 137, us' 138, us' 139, us' 140, us' 141, us' 142, us' 143, us' 144, us' 145, us' 146, us' 147, us' 148, us' 149, us' 150, us' 151, us' 152, us' 153, us' 154, us' 155, us' 156, us' 157, us' 158, us' 159, us' 160, us' 161, us' 162, us' 163, us' 164, us' 165, us' 166, us' 167, us' 168, us' 169, us' 170, us' 171, us' 172, us' 173, us' 174, us' 175, us' 176, us' 177, us' 178, us' 179, us' 180, us' 181, us' 182, us' 183, us' 184, us' 185, us' 186, us' 187, us' 188, us' 189, us' 190, us' 191, us' 192, us' 193, us' 194, us' 195, us' 196, us' 197, us' 198, us' 199, us' 200, us' 201, us' 202, us' 203, us' 204, us' 205, us' 206, us' 207, us' 208, us' 209, us' 210, us' 211, us' 212, us' 213, us' 214, us' 215, us' 216, us' 217, us' 218] = _
        rw [t2, t3]
      rw [el] at ha'
      subst ha'
      clear hus t2 t3 el hf' hs' hd'
      have HW := Lib.hid hW
      clear hW
      go_wp2
      exact bodyPost_ret (v := .tuple #[.agg zeroM, .int .i64 (cc : Int)]) (ret_msg rfl _ _ R zeroM _ rfl rfl rfl HW.out.2) rfl (mGetEnd_err HGet.out (hgr.bl.trans (HW.out.1.below (fun k hk e => by omega) hgr.bl.size)))
  | ok rr =>
    have c0 : y32.cell? ⟨T, 0, none⟩ = some (.pointer (some ⟨Q, 0, none⟩)) := by rw [HG32.out.tk.tb.cell]; rfl
    have c1 : y32.cell? ⟨T, 1, none⟩ = some (.int .i64 0) := by rw [HG32.out.tk.tb.cell]; rfl
    have HEnd := Lib.hid (refreadEnd_any (HG32.out.tk.rd rr rfl))
    have HRead := Lib.hid (msg_read HMsg.out)
    by_cases hrr : rr = []
    · rw [if_pos hrr] at HEnd
      have HGet := Lib.hid (show getM l = ((⟨4, nf, no, nt, ni, 0, 0, ns, yy, [], [], []⟩ : Mg), 0) by rw [MsgMath.getM_done HMsg.out, if_pos hrr])
      clear hrr
      go_wp2_with fail
      refine HEnd.out.mono ?_
      rintro e we ⟨rfl, hoe⟩
      have HOe := Lib.hid hoe
      have HTe := Lib.hid (HG32.out.tk.tb.onlyR hoe (by have := HG32.out.tk.qt; omega))
      have HZe := Lib.hid (HG32.out.bz.onlyR hoe (by have h1 := HG32.out.tk.qt; have h2 := HG32.out.tz; omega))
      have HRe := Lib.hid (HG32.out.br.onlyR hoe (by have := HG32.out.rq; omega))
      clear hoe c0 c1 HEnd
      have hne := HG32.out.tk.qt
      have hne2 := HG32.out.tz
      have hne3 := HG32.out.rq
      go_wp2_with (first
        | (refine wpList_store_fld rfl 30 (.tmp 207) (.tmp 205) rfl T 1 (.int .i64 ((0 : Nat) : Int)) rfl rfl 67 _ #[.pointer (some ⟨Q, 0, none⟩), .int .i64 0] HTe.out (by simp) rfl (by kernel_rfl) rfl ?_; intro wf hb ho; (have c0 : wf.cell? ⟨T, 0, none⟩ = some (.pointer (some ⟨Q, 0, none⟩)) := by rw [hb.cell]; rfl); (have c1 : wf.cell? ⟨T, 1, none⟩ = some (.int .i64 0) := by rw [hb.cell]; rfl); (have HOf := Lib.hid ho); (have HZf := Lib.hid (HZe.out.onlyS ho (by omega))); (have HRf := Lib.hid (HRe.out.onlyS ho (by omega))); clear hb ho)
        | (refine wpList_load_by rfl 27 (.tmp 7) rfl _ _ rfl (HZf.out.loads 27 _ Try.underlying27 rfl rfl) ?_)
        | (refine wpList_store_all rfl 27 (.tmp 2) (.tmp 218) rfl R #[.int .i64 4, .int .u64 (nf : Int), .int .u64 (no : Int), .int .u64 (nt : Int), .int .u64 (ni : Int), .int .u64 0, .int .u64 0, .int .u64 (ns : Int), .bool yy, .slice none 0 0, .slice none 0 0, .slice none 0 0] rfl rfl 27 zeroM HRf.out (by kernel_rfl) rfl (by simp [Value.oneCell']) ?_; intro wh hb ho; (have HBh := Lib.hid hb); (have HOh := Lib.hid ho); clear hb ho))
      have hos : OnlyS (fun k => k = Q ∨ k = T ∨ k = R) y32 wh := ((OnlyS.of_only HOe.out (.inl rfl)).trans (HOf.out.mono fun _ _ e => .inr (.inl e))).trans (HOh.out.mono fun _ _ e => .inr (.inr e))
      have hbl : Below w.heap.size w wh := HG32.out.bl.trans (hos.below (fun k hk e => by have h1 := HG32.out.rl; rcases e with e | e | e <;> omega) HG32.out.bl.size)
      refine bodyPost_ret (v := .tuple #[.agg #[.int .i64 4, .int .u64 (nf : Int), .int .u64 (no : Int), .int .u64 (nt : Int), .int .u64 (ni : Int), .int .u64 0, .int .u64 0, .int .u64 (ns : Int), .bool yy, .slice none 0 0, .slice none 0 0, .slice none 0 0], .int .i64 0]) (ret_msg rfl _ _ R #[.int .i64 4, .int .u64 (nf : Int), .int .u64 (no : Int), .int .u64 (nt : Int), .int .u64 (ni : Int), .int .u64 0, .int .u64 0, .int .u64 (ns : Int), .bool yy, .slice none 0 0, .slice none 0 0, .slice none 0 0] _ rfl rfl rfl HBh.out) rfl ?_
      unfold MGetEnd
      rw [HGet.out]
      exact ⟨_, _, _, [], rfl, ⟨HRead.out.1, ERow.nil _ _, fun u hu => absurd hu List.not_mem_nil, rfl, World.ownsRow_nil _ _ _ _, World.ownsRow_nil _ _ _ _, by simp, by simp, by simp⟩, hbl⟩
    · rw [if_neg hrr] at HEnd
      have HGet := Lib.hid (show getM l = (Mg.zero, 5) by rw [MsgMath.getM_done HMsg.out, if_neg hrr])
      clear hrr
      go_wp2_with fail
      refine HEnd.out.mono ?_
      rintro e we ⟨rfl, hoe⟩
      have HOe := Lib.hid hoe
      have HTe := Lib.hid (HG32.out.tk.tb.onlyR hoe (by have := HG32.out.tk.qt; omega))
      have HRe := Lib.hid (HG32.out.br.onlyR hoe (by have := HG32.out.rq; omega))
      clear hoe c0 c1 HEnd
      have hne := HG32.out.tk.qt
      have hne2 := HG32.out.tz
      have hne3 := HG32.out.rq
      go_upto_region 50 with (refine wpList_store_fld rfl 30 (.tmp 207) (.tmp 205) rfl T 1 (.int .i64 ((5 : Nat) : Int)) rfl rfl 67 _ #[.pointer (some ⟨Q, 0, none⟩), .int .i64 5] HTe.out (by simp) rfl (by kernel_rfl) rfl ?_; intro wf hb ho; (have c0 : wf.cell? ⟨T, 0, none⟩ = some (.pointer (some ⟨Q, 0, none⟩)) := by rw [hb.cell]; rfl); (have c1 : wf.cell? ⟨T, 1, none⟩ = some (.int .i64 5) := by rw [hb.cell]; rfl); (have HOf := Lib.hid ho); (have HTf := Lib.hid hb); (have HRf := Lib.hid (HRe.out.onlyS ho (by omega))); clear hb ho)
      clear c0 c1
      have hos : OnlyS (fun k => k = Q ∨ k = T) y32 wf := (OnlyS.of_only HOe.out (.inl rfl)).trans (HOf.out.mono fun _ _ e => .inr e)
      have hbl : Below w.heap.size w wf := HG32.out.bl.trans (hos.below (fun k hk e => by have h1 := HG32.out.rl; rcases e with e | e <;> omega) HG32.out.bl.size)
      have HBl := Lib.hid hbl
      have h1 := HG32.out.rl
      clear hos hbl
      refine region_by [(213, .is (.agg zeroM)), (214, .is (.pointer (some ⟨T, 0, none⟩))), (215, .is (.pointer (some ⟨T, 0, none⟩))), (216, .is (.pointer (some ⟨T, 1, none⟩))), (217, .is (.int .i64 5)), (3, .is (.int .i64 5))] [2, 3] (fun W => OnlyS (fun k => k = R) wf W ∧ Blk W R 27 zeroM) (by kernel_rfl) (by kernel_rfl) (by kernel_rfl) (by kernel_rfl) (by kernel_rfl) ⟨(OnlyS.refl _ _).drew, HRf.out.keep ((Below.refl _ _).drew)⟩ ?_ ?_
      · refine ⟨?c0, ?c1, ?c2, ?c3, ?c4, ?c5, ?c6, trivial⟩
        case c0 => exact ask_exec (guard_none rfl) (.agg zeroM) rfl rfl (by intro k hk; cases hk; rfl) (fun W hW => by kernel_rfl)
        case c1 => exact ask_copy (guard_none rfl) (.tmp 4) (.inl rfl) (by intro k hk; cases hk; rfl)
        case c2 => exact ask_exec (guard_none rfl) (.pointer (some ⟨T, 0, none⟩)) rfl rfl (by intro k hk; cases hk; rfl) (fun W hW => by kernel_rfl)
        case c3 => exact ask_field (guard_none rfl) _ (.tmp 215) 1 (.pointer (some ⟨T, 0, none⟩)) (.pointer (some ⟨T, 1, none⟩)) rfl rfl (by intro k hk; cases hk; rfl) (fun W => by kernel_rfl)
        case c4 => exact ask_load (guard_none rfl) _ (.tmp 216) (.pointer (some ⟨T, 1, none⟩)) (.int .i64 5) rfl rfl (by intro k hk; cases hk; rfl) (fun W hW => load_err W _ _ (by rw [(HTf.out.onlyS hW.1 (by omega)).cell]; rfl))
        case c5 => exact ask_store_same (guard_none rfl) 27 (.tmp 2) (.tmp 213) R zeroM rfl rfl rfl rfl (facts_is (by simp [isFact])) (fun W hW => ⟨hW.2.stores 27 _ (by kernel_rfl) rfl (by kernel_rfl), hW.1.trans (setRow_onlyS W R zeroM), hW.2.row _⟩)
        case c6 => exact ask_copy (guard_none rfl) (.tmp 217) (.inr rfl) (by intro k hk; cases hk; rfl)
      · intro a' W hW hd' hs' hf'
        have t2 : a'.tmps.getD 2 undef = .pointer (some ⟨R, 0, none⟩) := hf' 2 rfl
        have t3 : a'.tmps.getD 3 undef = .int .i64 5 := hf' 3 rfl
        obtain ⟨us', hus, ha'⟩ := act_open 219 a' hs' hd'
        rw [← hus] at t2 t3
        have el : ((List.range 219).map us').toArray = #[us' 0, us' 1, .pointer (some ⟨R, 0, none⟩), .int .i64 5, us' 4, us' 5, us' 6, us' 7, us' 8, us' 9, us' 10, us' 11, us' 12, us' 13, us' 14, us' 15, us' 16, us' 17, us' 18, us' 19, us' 20, us' 21, us' 22, us' 23, us' 24, us' 25, us' 26, us' 27, us' 28, us' 29, us' 30, us' 31, us' 32, us' 33, us' 34, us' 35, us' 36, us' 37, us' 38, us' 39, us' 40, us' 41, us' 42, us' 43, us' 44, us' 45, us' 46, us' 47, us' 48, us' 49, us' 50, us' 51, us' 52, us' 53, us' 54, us' 55, us' 56, us' 57, us' 58, us' 59, us' 60, us' 61, us' 62, us' 63, us' 64, us' 65, us' 66, us' 67, us' 68, us' 69, us' 70, us' 71, us' 72, us' 73, us' 74, us' 75, us' 76, us' 77, us' 78, us' 79, us' 80, us' 81, us' 82, us' 83, us' 84, us' 85, us' 86, us' 87, us' 88, us' 89, us' 90, us' 91, us' 92, us' 93, us' 94, us' 95, us' 96, us' 97, us' 98, us' 99, us' 100, us' 101, us' 102, us' 103, us' 104, us' 105, us' 106, us' 107, us' 108, us' 109, us' 110, us' 111, us' 112, us' 113, us' 114, us' 115, us' 116, us' 117, us' 118, us' 119, us' 120, us' 121, us' 122, us' 123, us' 124, us' 125, us' 126, us' 127, us' 128, us' 129, us' 130, us' 131, us' 132, us' 133, us' 134, us' 135, us' 136, us' 137, us' 138, us' 139, us' 140, us' 141, us' 142, us' 143, us' 144, us' 145, us' 146, us' 147, us' 148, us' 149, us' 150, us' 151, us' 152, us' 153, us' 154, us' 155, us' 156, us' 157, us' 158, us' 159, us' 160, us' 161, us' 162, us' 163, us' 164, us' 165, us' 166, us' 167, us' 168, us' 169, us' 170, us' 171, us' 172, us' 173, us' 174, us' 175, us' 176, us' 177, us' 178, us' 179, us' 180, us' 181, us' 182, us' 183, us' 184, us' 185, us' 186, us' 187, us' 188, us' 189, us' 190, us' 191, us' 192, us' 193, us' 194, us' 195, us' 196, us' 197, us' 198, us' 199, us' 200, us' 201, us' 202, us' 203, us' 204, us' 205, us' 206, us' 207, us' 208, us' 209, us' 210, us' 211, us' 212, us' 213, us' 214, us' 215, us' 216, us' 217, us' 218] := by
          show #[us' 0, us' 1, us' 2, us' 3, us' 4, us' 5, us' 6, us' 7, us' 8, us' 9, us' 10, us' 11, us' 12, us' 13, us' 14, us' 15, us' 16, us' 17, us' 18, us' 19, us' 20, us' 21, us' 22, us' 23, us' 24, us' 25, us' 26, us' 27, us' 28, us' 29, us' 30, us' 31, us' 32, us' 33, us' 34, us' 35, us' 36, us' 37, us' 38, us' 39, us' 40, us' 41, us' 42, us' 43, us' 44, us' 45, us' 46, us' 47, us' 48, us' 49, us' 50, us' 51, us' 52, us' 53, us' 54, us' 55, us' 56, us' 57, us' 58, us' 59, us' 60, us' 61, us' 62, us' 63, us' 64, us' 65, us' 66, us' 67, us' 68, us' 69, us' 70, us' 71, us' 72, us' 73, us' 74, us' 75, us' 76, us' 77, us' 78, us' 79, us' 80, us' 81, us' 82, us' 83, us' 84, us' 85, us' 86, us' 87, us' 88, us' 89, us' 90, us' 91, us' 92, us' 93, us' 94, us' 95, us' 96, us' 97, us' 98, us' 99, us' 100, us' 101, us' 102, us' 103, us' 104, us' 105, us' 106, us' 107, us' 108, us' 109, us' 110, us' 111, us' 112, us' 113, us' 114, us' 115, us' 116, us' 117, us' 118, us' 119, us' 120, us' 121, us' 122, us' 123, us' 124, us' 125, us' 126, us' 127, us' 128, us' 129, us' 130, us' 131, us' 132, us' 133, us' 134, us' 135, us' 136, us' 137, us' 138, us' 139, us' 140, us' 141, us' 142, us' 143, us' 144, us' 145, us' 146, us' 147, us' 148, us' 149, us' 150, us' 151, us' 152, us' 153, us' 154, us' 155, us' 156, us' 157, us' 158, us' 159, us' 160, us' 161, us' 162, us' 163, us' 164, us' 165, us' 166, us' 167, us' 168, us' 169, us' 170, us' 171, us' 172, us' 173, us' 174, us' 175, us' 176, us' 177, us' 178, us' 179, us' 180, us' 181, us' 182, us' 183, us' 184, us' 185, us' 186, us' 187, us' 188, us' 189, us' 190, us' 191, us' 192, us' 193, us' 194, us' 195, us' 196, us' 197, us' 198, us' 199, us' 200, us' 201, us' 202, us' 203, us' 204, us' 205, us' 206, us' 207, us' 208, us' 209, us' 210, us' 211, us' 212, us' 213, us' 214, us' 215, us' 216, us' 217, us' 218] = _
          rw [t2, t3]
        rw [el] at ha'
        subst ha'
        clear hus t2 t3 el hf' hs' hd'
        have HW := Lib.hid hW
        clear hW
        go_wp2
        exact bodyPost_ret (v := .tuple #[.agg zeroM, .int .i64 5]) (ret_msg rfl _ _ R zeroM _ rfl rfl rfl HW.out.2) rfl (mGetEnd_err HGet.out (HBl.out.trans (HW.out.1.below (fun k hk e => by omega) HBl.out.size)))

end Go.Proofs.Ytidapdooiibfnaa

