/- Joined: MsgReader, MsgReaderHand, MsgGet. -/
import Derived.Test.YtgbhfolbkgibfaaLAR
import Derived.Test.YtgbhfolbkgibfaaLAO
import Derived.Test.YtgbhfolbkgibfaaLAV
import Derived.Test.YtgbhfolbkgibfaaLAU
import Derived.Test.YtgbhfolbkgibfaaLAY
/- Layer 18: the hand that reads, in memory. -/
namespace Go.Proofs.Ytgbhfolbkgibfaa
set_option maxRecDepth 20000
open Go.RowKit Go.Maps BinMath CmdMath Reg
open MsgMath (Mg Hand rdH)

/-- Of what is read the length doesn't matter. -/
def noLen (_ : List UInt8) : Nat := 0

/-- The reader at R, with l ahead of it; its bytes lie below G. -/
def RdI (R G : Nat) (L : List UInt8) (w : World) (U : Nat → Prop) (l : List UInt8) : Prop := (∀ k, U k ↔ k = R) ∧ At w R G L l

theorem RdI.keep {R G : Nat} {L : List UInt8} {w w' : World} {U V : Nat → Prop} {l : List UInt8} (h : RdI R G L w U l) (ho : OnlyS V w w') (hV : ∀ k, k < w.heap.size → V k → G ≤ k ∧ ¬ U k) : RdI R G L w' U l := by
  have hlt := h.2.lt
  exact ⟨h.1, h.2.only ho (fun b hb e => by have := (hV b (by omega) e).1; omega) (fun e => (hV R hlt.1 e).2 ((h.1 R).2 rfl))⟩

theorem RdI.next {R G : Nat} {L : List UInt8} {w w0 w' : World} {U : Nat → Prop} {l l' : List UInt8} (h : RdI R G L w U l) (h0 : Below w.heap.size w w0) (ho : Only R w0 w') (ha : At w' R G L l') : OnlyS U w w' ∧ RdI R G L w' U l' :=
  ⟨(OnlyS.of_below h0 fun _ hk _ => hk).trans ((OnlyS.of_only ho ((h.1 R).2 rfl)).mono fun _ _ e => e), h.1, ha⟩
theorem RdI.only {R G : Nat} {L : List UInt8} {w w0 w' : World} {U : Nat → Prop} {l : List UInt8} (h : RdI R G L w U l) (h0 : Below w.heap.size w w0) (ho : Only R w0 w') : OnlyS U w w' :=
  (OnlyS.of_below h0 fun _ hk _ => hk).trans ((OnlyS.of_only ho ((h.1 R).2 rfl)).mono fun _ _ e => e)

theorem readText_ok {R G : Nat} {l r q t : List UInt8} {w : World} (most : Nat) (hm : most ≤ 16384) (h : At w R G l r) (hg : gText most r = .ok (t, q)) :
    Calls Try.prog 103 #[.pointer (some ⟨R, 0, none⟩), .int .i64 (most : Int)] w fun e w' => ∃ v, e = .returned (.tuple #[v, .int .i64 0]) ∧ Row w' w.heap.size v t ∧ At w' R G l q ∧ Only R w w' := by
  obtain ⟨k, hk, rfl⟩ := h
  obtain ⟨u, e1, rfl⟩ := gText_ok hg
  have hN := rdRaw_any R l k 0 (most : Int) (by omega) w hk
  rw [Int.toNat_natCast, e1] at hN
  exact hN.mono fun e w' ⟨h1, v, h2, h3, h4⟩ => ⟨v, h2, h3, ⟨_, h4, rfl⟩, h1⟩

theorem readText_bad {R G : Nat} {l r : List UInt8} {c : Nat} {w : World} (most : Nat) (hm : most ≤ 16384) (h : At w R G l r) (hg : gText most r = .error c) :
    Calls Try.prog 103 #[.pointer (some ⟨R, 0, none⟩), .int .i64 (most : Int)] w fun e w' => ∃ a cap, e = .returned (.tuple #[.slice a 0 cap, .int .i64 (c : Int)]) ∧ Only R w w' := by
  obtain ⟨k, hk, rfl⟩ := h
  have hN := rdRaw_any R l k 0 (most : Int) (by omega) w hk
  rw [Int.toNat_natCast, gText_bad hg] at hN
  exact hN.mono fun e w' ⟨h1, v, h2, h3, _⟩ => by
    obtain ⟨a', c', e⟩ := slice_of_row h3
    exact ⟨a', c', by rw [h2, e]; rfl, h1⟩

set_option maxHeartbeats 1000000 in
theorem reader_octet {R G : Nat} {L : List UInt8} {w : World} {U : Nat → Prop} {l : List UInt8} (c : Nat) (hI : RdI R G L w U l) :
    Calls Try.prog 95 #[.agg #[.pointer (some ⟨R, 0, none⟩)], .int .u8 (c : Int)] w (HEnd 20000 noLen (RdI R G L) U l w (rdH.octet c l) isOct) := by
  have hb0 : Below w.heap.size w (w.alloc (.cells #[.pointer (some ⟨R, 0, none⟩)] 88)) := (Below.refl _ _).alloc (Nat.le_refl _) _
  have ha := hI.2.below hb0
  have HI := Lib.hid hI
  have HB := Lib.hid hb0
  clear hb0 hI
  cases hg : gByte l with
  | error d =>
    have hd : d = 2 := by cases l <;> simp [gByte] at hg; exact hg.symm
    subst hd
    have HR := Lib.hid (readByte_bad ha hg)
    have HE := Lib.hid (show rdH.octet c l = .error 2 from hg)
    clear ha hg
    go_enter Try.func95, Try.ntmps95
    go_wp2_with fail
    refine HR.out.mono ?_
    rintro e w2 ⟨rfl, ho⟩
    have HO := Lib.hid (HI.out.only HB.out ho)
    clear ho
    go_wp2_with fail
    refine (takeByte_bad 0 2 _ (by decide)).mono ?_
    rintro e w3 ⟨rfl, rfl⟩
    exact ⟨rfl, HEnd.bad HE.out HO.out (by decide)⟩
  | ok p =>
    obtain ⟨k, q⟩ := p
    have HR := Lib.hid (readByte_ok ha hg)
    have HE := Lib.hid (show rdH.octet c l = .ok (k, q) from hg)
    have HK := Lib.hid (gByte_back hg)
    clear ha hg
    go_enter Try.func95, Try.ntmps95
    go_wp2_with fail
    refine HR.out.mono ?_
    rintro e w2 ⟨rfl, ha, ho⟩
    have HO := Lib.hid (HI.out.next HB.out ho ha)
    clear ho ha
    go_wp2_with fail
    refine (takeByte_ok k _).mono ?_
    rintro e w3 ⟨rfl, rfl⟩
    go_wp2
    go_ret
    exact HEnd.good (D := 20000) (l := l) (val := isOct) HE.out HO.out.1 ⟨rfl, HK.out.1⟩ HO.out.2 (fun _ h => .inl h) (Nat.zero_le _)

set_option maxHeartbeats 1000000 in
theorem reader_number {R G : Nat} {L : List UInt8} {w : World} {U : Nat → Prop} {l : List UInt8} (n : Nat) (hI : RdI R G L w U l) :
    Calls Try.prog 94 #[.agg #[.pointer (some ⟨R, 0, none⟩)], .int .u64 (n : Int)] w (HEnd 20000 noLen (RdI R G L) U l w (rdH.number n l) isNum) := by
  have hb0 : Below w.heap.size w (w.alloc (.cells #[.pointer (some ⟨R, 0, none⟩)] 88)) := (Below.refl _ _).alloc (Nat.le_refl _) _
  have ha := hI.2.below hb0
  have HI := Lib.hid hI
  have HB := Lib.hid hb0
  clear hb0 hI
  cases hg : gNum l with
  | error d =>
    have hd := gNum_err hg
    have HR := Lib.hid (readNum_bad ha hg)
    have HE := Lib.hid (show rdH.number n l = .error d from hg)
    have HT := Lib.hid (fun w => takeNum_bad 0 d w (by omega))
    have HD := Lib.hid (show d ≠ 0 by omega)
    clear ha hg hd
    go_enter Try.func94, Try.ntmps94
    go_wp2_with fail
    refine HR.out.mono ?_
    rintro e w2 ⟨rfl, ho⟩
    have HO := Lib.hid (HI.out.only HB.out ho)
    clear ho
    go_wp2_with fail
    refine (HT.out _).mono ?_
    rintro e w3 ⟨rfl, rfl⟩
    exact ⟨rfl, HEnd.bad HE.out HO.out HD.out⟩
  | ok p =>
    obtain ⟨k, q⟩ := p
    have HR := Lib.hid (readNum_ok ha hg)
    have HE := Lib.hid (show rdH.number n l = .ok (k, q) from hg)
    have HK := Lib.hid (gNum_back hg)
    clear ha hg
    go_enter Try.func94, Try.ntmps94
    go_wp2_with fail
    refine HR.out.mono ?_
    rintro e w2 ⟨rfl, ha, ho⟩
    have HO := Lib.hid (HI.out.next HB.out ho ha)
    clear ho ha
    go_wp2_with fail
    refine (takeNum_ok k _).mono ?_
    rintro e w3 ⟨rfl, rfl⟩
    go_wp2
    go_ret
    exact HEnd.good (D := 20000) (l := l) (val := isNum) HE.out HO.out.1 ⟨rfl, HK.out.1⟩ HO.out.2 (fun _ h => .inl h) (Nat.zero_le _)

/-- How the reading of a text ends. -/
def RdText (R G : Nat) (L : List UInt8) (U : Nat → Prop) (l : List UInt8) (most : Nat) (w : World) (e : Ending) (w' : World) : Prop :=
  OnlyS U w w' ∧ match gText most l with
  | .error c => e = .panicked (gaveUp (c : Int))
  | .ok (b, q) => ∃ y, e = .returned y ∧ Row w' w.heap.size y b ∧ RdI R G L w' U q

set_option maxHeartbeats 1000000 in
theorem reader_text {R G : Nat} {L : List UInt8} {w : World} {U : Nat → Prop} {l : List UInt8} (x : Value) (most : Nat) (hm : most ≤ 16384) (hI : RdI R G L w U l) :
    Calls Try.prog 96 #[.agg #[.pointer (some ⟨R, 0, none⟩)], x, .int .i64 (most : Int)] w (RdText R G L U l most w) := by
  have hb0 : Below w.heap.size w (w.alloc (.cells #[.pointer (some ⟨R, 0, none⟩)] 88)) := (Below.refl _ _).alloc (Nat.le_refl _) _
  have ha := hI.2.below hb0
  have HI := Lib.hid hI
  have HB := Lib.hid hb0
  clear hb0 hI
  cases hg : gText most l with
  | error d =>
    have hd := gText_err hg
    have HR := Lib.hid (readText_bad most hm ha hg)
    have HE := Lib.hid hg
    have HT := Lib.hid (fun a cap w => takeRaw_bad (.slice a 0 cap) d w (by omega))
    clear ha hg hd hm
    go_enter Try.func96, Try.ntmps96
    go_wp2_with fail
    refine HR.out.mono ?_
    rintro e w2 ⟨a, cap, rfl, ho⟩
    have HO := Lib.hid (HI.out.only HB.out ho)
    clear ho
    go_wp2_with fail
    refine (HT.out _ _ _).mono ?_
    rintro e w3 ⟨rfl, rfl⟩
    refine ⟨rfl, HO.out, ?_⟩
    rw [HE.out]
  | ok p =>
    obtain ⟨b, q⟩ := p
    have HR := Lib.hid (readText_ok most hm ha hg)
    have HE := Lib.hid hg
    clear ha hg hm
    go_enter Try.func96, Try.ntmps96
    go_wp2_with fail
    refine HR.out.mono ?_
    rintro e w2 ⟨y, rfl, hr, ha, ho⟩
    have HO := Lib.hid (HI.out.next HB.out ho ha)
    have HRow := Lib.hid (row_low hr HB.out.size)
    obtain ⟨ya, yc, rfl⟩ := slice_of_row hr
    obtain ⟨yn, hyn⟩ : ∃ yn, yn = b.length := ⟨_, rfl⟩
    rw [← hyn] at HRow ⊢
    clear ho ha hr hyn
    go_wp2_with fail
    refine (takeRaw_ok (.slice ya yn yc) _).mono ?_
    rintro e w3 ⟨rfl, rfl⟩
    go_wp2
    go_ret
    refine ⟨HO.out.1, ?_⟩
    rw [HE.out]
    exact ⟨_, rfl, HRow.out, HO.out.2⟩

set_option maxHeartbeats 1000000 in
theorem takeEnt_ok (e : Ent) (a b : Option Addr) (ca cb : Nat) (w : World) : Calls Try.prog 97 #[.agg (entC e a ca b cb), .int .i64 0] w fun r w' => r = .returned (.agg (entC e a ca b cb)) ∧ Below w.heap.size w w' := by
  obtain ⟨w0, hw0⟩ : ∃ w0, w0 = (w.alloc (.cells (entC e a ca b cb) 62)).alloc (.cells zeroC 62) := ⟨_, rfl⟩
  have hb0 : Below w.heap.size w w0 := by rw [hw0]; exact ((Below.refl _ _).alloc (Nat.le_refl _) _).alloc (by simp) _
  have B1 : Blk w0 w.heap.size 62 (entC e a ca b cb) := by rw [hw0]; exact (Blk.new w _ _).alloc _
  have B2 : Blk w0 (w.heap.size + 1) 62 zeroC := by
    rw [hw0]
    have h := Blk.new (w.alloc (.cells (entC e a ca b cb) 62)) 62 zeroC
    rwa [World.size_alloc] at h
  have HW0 := Lib.hid hw0
  have HL1 := Lib.hid (Blk.loads (P := Try.prog) B1 62 _ Try.underlying62 rfl (by kernel_rfl))
  have HB2 := Lib.hid B2
  have HB0 := Lib.hid hb0
  clear hw0 hb0 B1 B2
  go_enter Try.func97, Try.ntmps97
  go_upto_region 1 with fail
  have e0 := HW0.out
  simp only [zeroC] at e0
  rw [← e0]
  clear e0 HW0
  go_wp2_with fail
  refine (must_ok _).mono ?_
  rintro r w1 ⟨rfl, hw1⟩
  rw [hw1]
  clear hw1 w1
  go_wp2_with (first
    | (refine wpList_load_by rfl 62 (.tmp 2) rfl _ _ rfl HL1.out ?_)
    | (refine wpList_store_all rfl 62 (.tmp 4) (.tmp 7) rfl (w.heap.size + 1) (entC e a ca b cb) rfl rfl 62 zeroC HB2.out (by kernel_rfl) rfl (by simp [entC, Value.oneCell']) ?_; intro wz hb ho; (have HZ := Lib.hid hb); (have HO := Lib.hid ho); clear hb ho))
  exact bodyPost_ret (v := .agg (entC e a ca b cb)) (ret_ent1 rfl _ _ (w.heap.size + 1) (entC e a ca b cb) rfl rfl HZ.out) rfl ⟨rfl, HB0.out.trans (HO.out.below (fun k hk e => by have e : k = w.heap.size + 1 := e; omega) HB0.out.size)⟩

set_option maxHeartbeats 1000000 in
theorem takeEnt_bad (e : Ent) (a b : Option Addr) (ca cb c : Nat) (hc : c ≠ 0) (w : World) : Calls Try.prog 97 #[.agg (entC e a ca b cb), .int .i64 (c : Int)] w fun r w' => r = .panicked (gaveUp (c : Int)) ∧ Below w.heap.size w w' := by
  have HM := Lib.hid (fun w => must_bad c w hc)
  have hb0 : Below w.heap.size w ((w.alloc (.cells (entC e a ca b cb) 62)).alloc (.cells zeroC 62)) := ((Below.refl _ _).alloc (Nat.le_refl _) _).alloc (by simp) _
  have HB0 := Lib.hid hb0
  clear hb0 hc
  go_enter Try.func97, Try.ntmps97
  go_wp2_with fail
  refine (HM.out _).mono ?_
  rintro r w1 ⟨rfl, rfl⟩
  exact ⟨rfl, rfl, HB0.out⟩
end Go.Proofs.Ytgbhfolbkgibfaa

/- Layer 18: the reader is a hand. -/
namespace Go.Proofs.Ytgbhfolbkgibfaa
set_option maxRecDepth 20000
open Go.RowKit Go.Maps BinMath CmdMath Reg
open MsgMath (Mg Hand rdH)

theorem rdEntry_err {e : Ent} {l : List UInt8} {c : Nat} (h : gText 128 l = .error c) : rdH.entry e l = .error c := MsgMath.bindP_err h
theorem rdEntry_bad {e : Ent} {l q x : List UInt8} (h : gText 128 l = .ok (x, q)) (hx : (getR x).2 ≠ 0) : rdH.entry e l = .error (getR x).2 := by
  show MsgMath.bindP (gText 128) _ l = _
  rw [MsgMath.bindP_ok h, if_neg hx]
  rfl
theorem rdEntry_ok {e : Ent} {l q x : List UInt8} (h : gText 128 l = .ok (x, q)) (hx : (getR x).2 = 0) : rdH.entry e l = .ok ((getR x).1, q) := by
  show MsgMath.bindP (gText 128) _ l = _
  rw [MsgMath.bindP_ok h, if_pos hx]
  rfl

theorem Mine.stay {w w' W : World} {B : Nat} {e : Ent} {a b : Option Addr} {ca cb : Nat} {Y : Nat → Prop} (h : Mine w' w.heap.size e a ca b cb) (hB : B ≤ w.heap.size) (hY : ∀ k, w.heap.size ≤ k → ¬ Y k) (hW : Like w' Y B W) : Has W e a ca b cb :=
  ⟨h.ok, (row_to h.d fun k hk => hW k (by have := World.ownsRow.lt h.d k hk; omega) (World.ownsRow.lt h.d k hk).2 (hY k (World.ownsRow.lt h.d k hk).1)).bys,
    (h.m.to fun k hk => hW k (by have := World.ownsRow.lt h.m k hk; omega) (World.ownsRow.lt h.m k hk).2 (hY k (World.ownsRow.lt h.m k hk).1)).nums, by have := h.dl; omega, by have := h.ml; omega⟩

theorem Mine.free {w w' W : World} {B : Nat} {e : Ent} {a b : Option Addr} {ca cb n q : Nat} {Y : Nat → Prop} (h : Mine w' w.heap.size e a ca b cb) (hB : B ≤ w.heap.size) (hY : ∀ k, w.heap.size ≤ k → ¬ Y k) (hW : Like w' Y B W) : FreeA W a n ∧ FreeA W b q :=
  ⟨freeA_row (row_to h.d fun k hk => hW k (by have := World.ownsRow.lt h.d k hk; omega) (World.ownsRow.lt h.d k hk).2 (hY k (World.ownsRow.lt h.d k hk).1)),
    freeA_row (h.m.to fun k hk => hW k (by have := World.ownsRow.lt h.m k hk; omega) (World.ownsRow.lt h.m k hk).2 (hY k (World.ownsRow.lt h.m k hk).1))⟩

set_option maxHeartbeats 2000000 in
theorem reader_entry {R G B : Nat} {L : List UInt8} {w : World} {U : Nat → Prop} {l : List UInt8} (X : Nat → Prop) (e : Ent) (x : Value) (hI : RdI R G L w U l) (hX : ∀ k, X k → k < w.heap.size) (hB : B ≤ w.heap.size) (hx : isEnt False X B e x w U) :
    Calls Try.prog 93 #[.agg #[.pointer (some ⟨R, 0, none⟩)], x] w (HEnd 20000 noLen (RdI R G L) U l w (rdH.entry e l) (isEnt True X B)) := by
  obtain ⟨a, ca, b, cb, rfl, -⟩ := hx
  obtain ⟨w0, hw0⟩ : ∃ w0, w0 = ((w.alloc (.cells #[.pointer (some ⟨R, 0, none⟩)] 88)).alloc (.cells (entC e a ca b cb) 62)).alloc (.cells zeroC 62) := ⟨_, rfl⟩
  have ho0 : OnlyS (fun _ => False) w w0 := by rw [hw0]; exact (((OnlyS.refl _ _).alloc _).alloc _).alloc _
  have hs0 : w0.heap.size = w.heap.size + 3 := by rw [hw0]; simp
  have hRl := hI.2.lt.1
  have hGl := hI.2.lt.2
  have hUR := hI.1
  have hI0 := hI.keep ho0 (fun _ _ e => e.elim)
  have B1 : Blk w0 w.heap.size 88 #[.pointer (some ⟨R, 0, none⟩)] := by rw [hw0]; exact ((Blk.new w _ _).alloc _).alloc _
  have B3 : Blk w0 (w.heap.size + 2) 62 zeroC := by
    rw [hw0]
    have h := Blk.new ((w.alloc (.cells #[.pointer (some ⟨R, 0, none⟩)] 88)).alloc (.cells (entC e a ca b cb) 62)) 62 zeroC
    rwa [World.size_alloc, World.size_alloc] at h
  have HL1 := Lib.hid (Blk.loads (P := Try.prog) B1 88 _ Try.underlying88 rfl (by kernel_rfl))
  have HB3 := Lib.hid B3
  have HS0 := Lib.hid hs0
  have HO0 := Lib.hid ho0
  have HW0 := Lib.hid hw0
  have HUR := Lib.hid hUR
  have HRl := Lib.hid hRl
  have HX := Lib.hid hX
  have HT := Lib.hid (reader_text (.slice none 0 0) 128 (by decide) hI0)
  clear hw0 ho0 hs0 hI B1 B3 hUR hX hI0
  have hU : ∀ k, w.heap.size ≤ k → ¬ U k := fun k hk h => by have := (HUR.out k).1 h; omega
  cases hg : gText 128 l with
  | error c =>
    have HE := Lib.hid (rdEntry_err (e := e) hg)
    have HC := Lib.hid (show c ≠ 0 by have := gText_err hg; omega)
    have HG := Lib.hid hg
    clear hg
    go_enter Try.func93, Try.ntmps93
    go_upto_region 1 with fail
    have e0 := HW0.out
    simp only [entC, zeroC] at e0
    simp only [entC]
    rw [← e0]
    clear e0 HW0
    go_wp2_with (refine wpList_load_by rfl 88 (.tmp 2) rfl _ _ rfl HL1.out ?_)
    refine HT.out.mono ?_
    rintro r w2 ⟨ho, hcase⟩
    rw [HG.out] at hcase
    obtain rfl := hcase
    exact ⟨rfl, HEnd.bad HE.out ((HO0.out.mono (fun _ _ e => e.elim)).trans (ho.mono fun _ _ h => h)) HC.out⟩
  | ok p =>
    obtain ⟨t, q⟩ := p
    have htl := (gText_back hg).1
    have HG := Lib.hid hg
    go_enter Try.func93, Try.ntmps93
    go_upto_region 1 with fail
    have e0 := HW0.out
    simp only [entC, zeroC] at e0
    simp only [entC]
    rw [← e0]
    clear e0 HW0 hg
    go_wp2_with (refine wpList_load_by rfl 88 (.tmp 2) rfl _ _ rfl HL1.out ?_)
    refine HT.out.mono ?_
    rintro r w2 ⟨ho, hcase⟩
    rw [HG.out] at hcase
    obtain ⟨y, rfl, hrow, hI2⟩ := hcase
    obtain ⟨ya, yc, rfl⟩ := slice_of_row hrow
    have HO2 := Lib.hid ((HO0.out.mono (S := U) (fun _ _ e => e.elim)).trans ho)
    have HB2 := Lib.hid (HB3.out.onlyS ho (hU _ (by omega)))
    have HGet := Lib.hid (get_any ya t.length yc t w2 hrow.bys (by omega))
    have HI2 := Lib.hid hI2
    have hsz2 : w.heap.size ≤ w2.heap.size := HO2.out.size
    obtain ⟨tn, htn⟩ : ∃ tn, tn = t.length := ⟨_, rfl⟩
    rw [← htn] at HGet ⊢
    clear ho hrow hI2 htn htl HT
    go_wp2_with fail
    refine HGet.out.mono ?_
    rintro r w3 ⟨xa, xca, xb, xcb, rfl, hmine, hb3⟩
    have HM := Lib.hid hmine
    have HO3 := Lib.hid (HO2.out.trans (OnlyS.of_below (S := U) hb3 fun _ hk _ => hk))
    have HB3' := Lib.hid (HB2.out.keep hb3)
    have HI3 := Lib.hid (HI2.out.keep (V := fun _ => False) (OnlyS.of_below hb3 fun _ hk _ => hk) (fun _ _ e => e.elim))
    have hsz3 : w2.heap.size ≤ w3.heap.size := hb3.size
    clear hmine hb3
    by_cases h0 : (getR t).2 = 0
    · have HE := Lib.hid (rdEntry_ok (e := e) HG.out h0)
      rw [h0]
      clear h0
      go_wp2_with fail
      refine (takeEnt_ok (getR t).1 xa xb xca xcb _).mono ?_
      rintro r w4 ⟨rfl, hb4⟩
      have HM4 := Lib.hid (show Mine w4 w2.heap.size (getR t).1 xa xca xb xcb from HM.out.far (OnlyS.of_below (S := fun _ => False) hb4 fun _ hk _ => hk) (fun _ _ e => e))
      have HO4 := Lib.hid (HO3.out.trans (OnlyS.of_below (S := U) hb4 fun _ hk _ => hk))
      have HB4 := Lib.hid (HB3'.out.keep hb4)
      have HI4 := Lib.hid (HI3.out.keep (V := fun _ => False) (OnlyS.of_below hb4 fun _ hk _ => hk) (fun _ _ e => e.elim))
      clear hb4
      go_wp2_with (refine wpList_store_all rfl 62 (.tmp 4) (.tmp 10) rfl (w.heap.size + 2) (entC (getR t).1 xa xca xb xcb) rfl rfl 62 zeroC HB4.out (by kernel_rfl) rfl (by simp [entC, Value.oneCell']) ?_; intro wz hb ho; (have HZ := Lib.hid hb); (have HO := Lib.hid ho); clear hb ho)
      have hg2 : w.heap.size + 2 < w2.heap.size := HB2.out.lt
      refine bodyPost_ret (v := .agg (entC (getR t).1 xa xca xb xcb)) (ret_ent1 rfl _ _ (w.heap.size + 2) _ rfl rfl HZ.out) rfl ?_
      refine HEnd.good (D := 20000) (l := l) (val := isEnt True X B) HE.out (HO4.out.then HO.out (fun k hk e => by have e : k = w.heap.size + 2 := e; omega)) ⟨xa, xca, xb, xcb, rfl, fun W hW => ?_⟩ (HI4.out.keep HO.out (fun k _ e => by have e : k = w.heap.size + 2 := e; subst e; exact ⟨by omega, hU _ (by omega)⟩)) (fun _ h => .inl h) (Nat.zero_le _)
      have hm5 : Mine wz w2.heap.size (getR t).1 xa xca xb xcb := HM4.out.far HO.out (fun k hk e => by have e : k = w.heap.size + 2 := e; omega)
      have hY : ∀ k, w2.heap.size ≤ k → ¬ (U k ∨ X k) := fun k hk h => h.elim (hU k (Nat.le_trans hsz2 hk)) (fun h => by have := HX.out k h; omega)
      exact ⟨hm5.stay (Nat.le_trans hB hsz2) hY hW, fun _ => hm5.free (Nat.le_trans hB hsz2) hY hW⟩
    · have HE := Lib.hid (rdEntry_bad (e := e) HG.out h0)
      have HT2 := Lib.hid (fun w => takeEnt_bad (getR t).1 xa xb xca xcb (getR t).2 h0 w)
      have H0 := Lib.hid h0
      clear h0
      go_wp2_with fail
      refine (HT2.out _).mono ?_
      rintro r w4 ⟨rfl, hb4⟩
      exact ⟨rfl, HEnd.bad HE.out (HO3.out.trans (OnlyS.of_below (S := U) hb4 fun _ hk _ => hk)) H0.out⟩

/-- The reader is a hand. -/
theorem reader_hand (R G B : Nat) (L : List UInt8) (hB : B ≤ G) : HandP rdH 88 (.agg #[.pointer (some ⟨R, 0, none⟩)]) (.agg #[.pointer (some ⟨R, 0, none⟩)]) 95 94 96 93 G B noLen (RdI R G L) True where
  mo := fun k w hk => by obtain ⟨n, rfl⟩ : ∃ n, k = n + 1 := ⟨k - 1, by omega⟩; kernel_rfl
  mn := fun k w hk => by obtain ⟨n, rfl⟩ : ∃ n, k = n + 1 := ⟨k - 1, by omega⟩; kernel_rfl
  mt := fun k w hk => by obtain ⟨n, rfl⟩ : ∃ n, k = n + 1 := ⟨k - 1, by omega⟩; kernel_rfl
  me := fun k w hk => by obtain ⟨n, rfl⟩ : ∃ n, k = n + 1 := ⟨k - 1, by omega⟩; kernel_rfl
  eo := enters _ (by kernel_rfl)
  en := enters _ (by kernel_rfl)
  et := enters _ (by kernel_rfl)
  ee := enters _ (by kernel_rfl)
  lt := fun hI => ⟨fun k hk => by have e := (hI.1 k).1 hk; subst e; exact hI.2.lt.1, hI.2.lt.2, Nat.le_trans hB hI.2.lt.2⟩
  keep := fun hI ho hV => hI.keep ho hV
  octet := fun c hI _ _ => reader_octet c hI
  number := fun n hI _ _ => reader_number n hI
  text := fun {w U l} X x b most hI hX _ hm _ => by
    refine (reader_text x most hm hI).mono ?_
    rintro e w' ⟨ho, hcase⟩
    cases hg : gText most l with
    | error c =>
      rw [hg] at hcase
      obtain rfl := hcase
      exact HEnd.bad hg ho (by have := gText_err hg; omega)
    | ok p =>
      obtain ⟨t, q⟩ := p
      rw [hg] at hcase
      obtain ⟨y, rfl, hrow, hI'⟩ := hcase
      have hRl := hI.2.lt
      have hb := gText_back hg
      refine HEnd.good (D := 20000) (l := l) (val := isText True X B) hg ho ⟨fun W hW => (fun hr : Row W _ y t => ⟨hr.bys, fun _ a k c e => by subst e; exact freeA_row hr⟩) (row_to hrow fun k hk => ?_), by omega⟩ hI' (fun _ h => .inl h) (Nat.zero_le _)
      have h1 := World.ownsRow.lt hrow k hk
      exact hW k (by omega) h1.2 (fun h => h.elim (fun h => by have e := (hI'.1 k).1 h; omega) (fun h => by have := hX k h; omega))
  entry := fun X e x hI hX hx _ => reader_entry X e x hI hX (Nat.le_trans hB hI.2.lt.2) hx
end Go.Proofs.Ytgbhfolbkgibfaa

/- Layer 18: Get, and all that the landed msg answers. -/
namespace Go.Proofs.Ytgbhfolbkgibfaa
set_option maxRecDepth 20000
open Go.RowKit Go.Maps BinMath CmdMath Reg
open MsgMath (Mg Hand rdH walkH getM gMsg)

theorem Stay.far {w w' : World} {V Y : Nat → Prop} {B : Nat} {p : World → Prop} (h : Stay w Y B p) (ho : OnlyS V w w') (hV : ∀ k, B ≤ k → V k → Y k) : Stay w' (fun _ => False) B p :=
  fun W hW => h W fun k hB hk hn => (hW k hB (Nat.lt_of_lt_of_le hk ho.size) fun e => e).trans (ho.block k hk fun hv => hn (hV k hB hv))

/-- What Get's closure leaves: T is the message that is told. -/
def GotM (l : List UInt8) (T : Nat) (w : World) (c : Int) (w' : World) : Prop :=
  OnlyS (fun k => k = T) w w' ∧ c = ((getM l).2 : Int) ∧ (c = 0 → ∃ (ve vm vg : Value) (us : List EE), Blk w' T 36 (mgC (getM l).1 ve vm vg) ∧ Stay w' (fun _ => False) w.heap.size (fun W => MHas W (getM l).1 ve vm vg us ∧ MFree W (getM l).1 ve vm vg us))

theorem getM_err {l : List UInt8} {c : Nat} (h : gMsg l = .error c) : getM l = (Mg.zero, c) := by unfold getM; rw [h]
theorem getM_tail {l q : List UInt8} {m : Mg} (h : gMsg l = .ok (m, q)) (hq : q ≠ []) : getM l = (Mg.zero, 5) := by
  unfold getM
  rw [h]
  simp only
  rw [if_neg hq]
theorem getM_ok {l : List UInt8} {m : Mg} (h : gMsg l = .ok (m, [])) : getM l = (m, 0) := by
  unfold getM
  rw [h]
  simp only
  rw [if_pos trivial]

theorem At.wroteI {w w' : World} {R g G : Nat} {l r : List UInt8} {t : TypeId} {cs : Array Value} {z : Int} (h : At w R G l r) (hb : Blk w g t cs) (h0 : cs[0]? = some (.int .i64 z)) (hR : ¬ R = g) (ho : OnlyS (fun b => b = g) w w') : At w' R G l r := by
  obtain ⟨k, ⟨b, cap, hh, hk, hl, ⟨hc1, hc2, hG⟩, hcase⟩, e⟩ := h
  have hRl : R < w.heap.size := (Array.getElem?_eq_some_iff.1 hh).1
  refine ⟨k, ⟨b, cap, by rw [ho.block R hRl hR]; exact hh, hk, hl, ⟨hc1, hc2, Nat.le_trans hG ho.size⟩, ?_⟩, e⟩
  rcases hcase with hcase | ⟨g', rfl, hn, hlt, hc⟩
  · exact .inl hcase
  · refine .inr ⟨g', rfl, hn, hlt, fun i hi => ?_⟩
    have hne : ¬ g' = g := fun e => by
      subst e
      have h1 := hc 0 (by omega)
      rw [hb.cell, h0] at h1
      simp [bv] at h1
    have hcl : w'.cell? ⟨g', i, none⟩ = w.cell? ⟨g', i, none⟩ := World.cell?_of_block (w := w) (ho.block g' (Nat.lt_of_lt_of_le hlt hG) hne)
    rw [hcl]
    exact hc i hi

set_option maxHeartbeats 2000000 in
theorem mget1_any (A T : Nat) (a : Option Addr) (len cap : Nat) (l : List UInt8) (w : World) (hA : Blk w A 34 #[.slice a len cap]) (hT : Blk w T 36 zeroM) (hx : Bys w (.slice a len cap) l) (hl : l.length ≤ 140737488351232) :
    Calls Try.prog 42 #[.pointer (some ⟨A, 0, none⟩), .pointer (some ⟨T, 0, none⟩)] w fun e w' => ∃ c, Gives c e ∧ GotM l T w c w' := by
  have HN := Lib.hid (rnew_any a len cap l w hx hl)
  have cA : w.cell? ⟨A, 0, none⟩ = some (.slice a len cap) := by rw [hA.cell]; rfl
  have hTl : T < w.heap.size := hT.lt
  have HT := Lib.hid hT
  clear hx hl hA hT
  go_enter Try.func42, Try.ntmps42
  go_wp2_with fail
  refine HN.out.mono ?_
  rintro e w2 ⟨R, rfl, hR, hrd, hb⟩
  have hs12 : w.heap.size ≤ w2.heap.size := hb.size
  have HB2 := Lib.hid (OnlyS.of_below (S := fun b => b = T) hb fun k hk _ => hk)
  have HT2 := Lib.hid (HT.out.keep hb)
  have hat : At w2 R w2.heap.size l l := ⟨0, hrd, rfl⟩
  have hI : RdI R w2.heap.size l w2 (fun k => k = R) l := ⟨fun _ => Iff.rfl, hat⟩
  have HW := Lib.hid (walk_any (reader_hand R w2.heap.size w.heap.size l hs12) (fun _ => False) Mg.zero (.slice none 0 0) (.slice none 0 0) (.slice none 0 0) [] hI (fun _ e => e.elim) (Stay.all fun W => MHas.zero W) (Nat.zero_le _))
  have hRl : R < w2.heap.size := hat.lt.1
  clear hrd hb HN cA hat hI HT
  go_wp2_with fail
  refine HW.out.mono ?_
  intro e w3 h
  rw [MsgMath.walkH_rd] at h
  cases hr : gMsg l with
  | error c =>
    obtain ⟨ho, hc, rfl⟩ := h.err hr
    refine ⟨rfl, (c : Int), ⟨fun h => absurd h (by omega), fun _ => rfl⟩, HB2.out.then ho (fun k hk e => by have e : k = R := e; omega), ?_⟩
    rw [getM_err hr]
    exact ⟨rfl, fun h => absurd h (by omega)⟩
  | ok p =>
    obtain ⟨m, q⟩ := p
    obtain ⟨y, U, rfl, ho, ⟨ve, vm, vg, us, rfl, hst⟩, hI, -, -⟩ := h.ok hr
    have HR := Lib.hid hr
    have HT3 := Lib.hid (HT2.out.onlyS ho (fun e => by have e : T = R := e; omega))
    have HB3 := Lib.hid (HB2.out.then ho (fun k hk e => by have e : k = R := e; omega))
    have HS := Lib.hid (hst.imp fun _ h => (⟨h.1, h.2 trivial⟩ : _ ∧ _))
    have HI := Lib.hid hI
    have hs23 : w2.heap.size ≤ w3.heap.size := ho.size
    clear h ho hst hI hr HW HT2 HB2
    go_wp2_with (refine wpList_store_all rfl 36 (.tmp 1) (.tmp 9) rfl T (mgC m ve vm vg) rfl rfl 36 zeroM HT3.out (mgC_info m ve vm vg) rfl (mgC_one HS.out.now.1) ?_; intro w4 hb ho; (have HB := Lib.hid hb); (have HO4 := Lib.hid ho); clear hb ho)
    have HAt := Lib.hid (HI.out.2.wroteI HT3.out (z := 0) rfl (by omega) HO4.out)
    have HB4 := Lib.hid (HB3.out.trans HO4.out)
    by_cases hq : q = []
    · have HR2 := Lib.hid (getM_ok (hq ▸ HR.out))
      have HQ := Lib.hid hq
      clear hq
      refine (readEnd_any HAt.out).mono ?_
      rintro e w5 ⟨rfl, ho⟩
      have HB5 := Lib.hid (HB4.out.then (OnlyS.of_only (S := fun b => b = R) ho rfl) fun k hk e => by have e : k = R := e; omega)
      have HT5 := Lib.hid (HB.out.onlyR ho (by omega))
      have HS5 := Lib.hid (HS.out.far ((HO4.out.mono (S := fun k => k = T ∨ k = R) (fun _ _ e => .inl e)).trans (OnlyS.of_only (S := fun k => k = T ∨ k = R) ho (.inr rfl))) (fun k hk e => .inl ((HI.out.1 k).2 (e.resolve_left (by omega)))))
      clear ho
      rw [if_pos HQ.out]
      go_wp2_with fail
      refine (must_ok _).mono ?_
      rintro e w6 ⟨rfl, rfl⟩
      go_wp2
      go_end0
      refine ⟨0, ⟨fun _ => rfl, fun h => absurd rfl h⟩, HB5.out, ?_⟩
      rw [HR2.out]
      exact ⟨rfl, fun _ => ⟨ve, vm, vg, us, HT5.out, HS5.out⟩⟩
    · have HR2 := Lib.hid (getM_tail HR.out hq)
      have HQ := Lib.hid hq
      clear hq
      refine (readEnd_any HAt.out).mono ?_
      rintro e w5 ⟨rfl, ho⟩
      have HB5 := Lib.hid (HB4.out.then (OnlyS.of_only (S := fun b => b = R) ho rfl) fun k hk e => by have e : k = R := e; omega)
      clear ho
      rw [if_neg HQ.out]
      go_wp2_with fail
      refine (must_bad 5 _ (by decide)).mono ?_
      rintro e w6 ⟨rfl, rfl⟩
      refine ⟨rfl, 5, ⟨fun h => absurd h (by decide), fun _ => rfl⟩, HB5.out, ?_⟩
      rw [HR2.out]
      exact ⟨rfl, fun h => absurd h (by decide)⟩

set_option maxHeartbeats 4000000 in
theorem msgGet_new (a : Option Addr) (len cap : Nat) (l : List UInt8) (w : World) (hx : Bys w (.slice a len cap) l) (hl : l.length ≤ 140737488351232) :
    Calls Try.prog 32 #[.slice a len cap] w (MGotN (getM l).1 (getM l).2 w) := by
  have hmf : ∀ (fn : Fn) (first cap : Array Value) (w : World), (Instr.makeFunc fn first cap).run Try.prog w = .ok (.func fn first cap) w := fun _ _ _ _ => rfl
  obtain ⟨w0, hw0⟩ : ∃ w0, w0 = ((w.alloc (.cells #[.slice a len cap] 34)).alloc (.cells zeroM 36)).alloc (.cells zeroM 36) := ⟨_, rfl⟩
  have hb0 : Below w.heap.size w w0 := by rw [hw0]; exact (((Below.refl _ _).alloc (Nat.le_refl _) _).alloc (by simp) _).alloc (by simp only [World.size_alloc]; omega) _
  have hs0 : w0.heap.size = w.heap.size + 3 := by rw [hw0]; simp
  have B1 : Blk w0 w.heap.size 34 #[.slice a len cap] := by rw [hw0]; exact ((Blk.new w _ _).alloc _).alloc _
  have B2 : Blk w0 (w.heap.size + 1) 36 zeroM := by
    rw [hw0]
    exact (Blk.newAt (w.alloc (.cells #[.slice a len cap] 34)) 36 _ _ (w.heap.size + 1) (by simp) rfl).alloc _
  have B3 : Blk w0 (w.heap.size + 2) 36 zeroM := by
    rw [hw0]
    exact Blk.newAt ((w.alloc (.cells #[.slice a len cap] 34)).alloc (.cells zeroM 36)) 36 _ _ (w.heap.size + 2) (by simp) rfl
  have hC := caught_any 42 #[] #[.pointer (some ⟨w.heap.size, 0, none⟩), .pointer (some ⟨w.heap.size + 2, 0, none⟩)] (enters _ (by kernel_rfl)) w0
    (fun c w2 => ∃ w1, Below (w.heap.size + 3) w0 w1 ∧ w1.heap.size = w.heap.size + 4 ∧ GotM l (w.heap.size + 2) w1 c w2)
    (fun w1 hb hs => by
      rw [hs0] at hb hs
      have hb' : Below w0.heap.size w0 w1 := by rw [hs0]; exact hb
      refine (mget1_any w.heap.size (w.heap.size + 2) a len cap l w1 (B1.keep hb') (B3.keep hb') ((hx.below (Nat.le_refl _) hb0).below (Nat.le_refl _) hb') hl).mono ?_
      rintro e w2 ⟨c, hg, hgot⟩
      refine ⟨c, hg, ⟨w1, hb, hs, hgot⟩, hgot.1.size, ?_⟩
      rw [hs0]
      exact hgot.1.block _ (by omega) (by omega))
  have HC := Lib.hid hC
  have HB0 := Lib.hid hb0
  have HS0 := Lib.hid hs0
  have HB2 := Lib.hid B2
  have HW0 := Lib.hid hw0
  clear hx hl hb0 hs0 B1 B2 B3 hC hw0
  go_enter Try.func32, Try.ntmps32
  go_wp2_with fail
  have e0 : w0 = ((w.alloc (.cells #[.slice a len cap] 34)).alloc (.cells #[.int .i64 0, .int .u64 0, .int .u64 0, .int .u64 0, .int .u64 0, .int .u64 0, .int .u64 0, .int .u64 0, .bool false, .slice none 0 0, .slice none 0 0, .slice none 0 0] 36)).alloc (.cells #[.int .i64 0, .int .u64 0, .int .u64 0, .int .u64 0, .int .u64 0, .int .u64 0, .int .u64 0, .int .u64 0, .bool false, .slice none 0 0, .slice none 0 0, .slice none 0 0] 36) := HW0.out
  rw [← e0]
  clear e0 HW0
  refine HC.out.mono ?_
  rintro e w3 ⟨c, w2, ⟨w1, hb1, hs1, h1, h2, h3⟩, rfl, hsz, ho⟩
  rw [HS0.out] at hsz ho
  have hbw : Below w.heap.size w w2 := (HB0.out.trans (hb1.mono (by omega))).trans (h1.below (fun k hk h => by have h : k = w.heap.size + 2 := h; omega) (by omega))
  have hb3 : Below w.heap.size w w3 := hbw.trans (ho.below (fun k hk h => by have h : k = w.heap.size + 3 := h; omega) (by omega))
  have HB3 := Lib.hid hb3
  have HR3 := Lib.hid (show Blk w3 (w.heap.size + 1) 36 zeroM from ((HB2.out.keep (by rw [HS0.out]; exact hb1)).onlyS h1 (by omega)).onlyS ho (by omega))
  have hs3 : w.heap.size + 4 ≤ w3.heap.size := Nat.le_trans hsz ho.size
  obtain ⟨m, hm⟩ : ∃ m, m = (getM l).1 := ⟨_, rfl⟩
  obtain ⟨d, hd⟩ : ∃ d, d = (getM l).2 := ⟨_, rfl⟩
  have HM := Lib.hid hm
  have HD := Lib.hid hd
  rw [← hm] at h3
  rw [← hd] at h2
  subst h2
  by_cases h0 : d = 0
  · subst h0
    obtain ⟨ve, vm, vg, us, hT, hst⟩ := h3 rfl
    have HT := Lib.hid (show Blk w3 (w.heap.size + 2) 36 (mgC m ve vm vg) from hT.onlyS ho (by omega))
    have hfar : MNew w3 (w.heap.size + 4) m ve vm vg us := fun W hW => hst W fun k hk hl _ => by
      have e : k ≠ w.heap.size + 3 := by omega
      rw [hW k (by omega) (Nat.lt_of_lt_of_le hl ho.size), ho.block k hl e]
    have HF := Lib.hid hfar
    have HL := Lib.hid (Blk.loads (P := Try.prog) HT.out 36 _ Try.underlying36 rfl (mgC_info m ve vm vg))
    clear h1 h3 hbw hb1 hs1 ho hb3 hT hst hfar hm hd HC HB0 HS0 HB2
    go_wp2_with (first
      | (refine wpList_load_by rfl 36 (.tmp 4) rfl _ _ rfl HL.out ?_)
      | (refine wpList_store_all rfl 36 (.tmp 2) (.tmp 12) rfl (w.heap.size + 1) (mgC m ve vm vg) rfl rfl 36 zeroM HR3.out (mgC_info m ve vm vg) rfl (mgC_one HF.out.has) ?_; intro wz hb ho; (have HZ := Lib.hid hb); (have HO := Lib.hid ho); clear hb ho))
    refine bodyPost_ret (v := .tuple #[.agg (mgC m ve vm vg), .int .i64 0]) (ret_msg rfl _ _ (w.heap.size + 1) (mgC m ve vm vg) _ rfl rfl rfl HZ.out) rfl ?_
    unfold MGotN
    rw [← HM.out, ← HD.out]
    refine ⟨ve, vm, vg, us, rfl, fun W hW => HF.out W fun k hk hl => ?_, HB3.out.trans (HO.out.below (fun k hk e => by have e : k = w.heap.size + 1 := e; omega) (by omega))⟩
    have e : k ≠ w.heap.size + 1 := by omega
    rw [hW k (by omega) (Nat.lt_of_lt_of_le hl HO.out.size), HO.out.block k hl e]
  · have q : ((d : Int) != 0) = true := by simpa using h0
    have HZm := Lib.hid (show m = Mg.zero by
      rw [HM.out]
      have h4 := HD.out
      unfold getM at h4 ⊢
      cases hg : gMsg l with
      | error c => rfl
      | ok p =>
        obtain ⟨x, r⟩ := p
        rw [hg] at h4
        simp only at h4 ⊢
        split
        · rename_i hrn
          rw [if_pos hrn] at h4
          exact absurd h4 h0
        · rfl)
    clear h1 h3 hbw hb1 hs1 ho hb3 h0 hm hd HC HB0 HS0 HB2
    go_wp2_with (refine wpList_store_all rfl 36 (.tmp 2) (.tmp 10) rfl (w.heap.size + 1) zeroM rfl rfl 36 zeroM HR3.out (by kernel_rfl) rfl (by simp [zeroM, mgC, Mg.zero, Value.oneCell']) ?_; intro wz hb ho; (have HZ := Lib.hid hb); (have HO := Lib.hid ho); clear hb ho)
    refine bodyPost_ret (v := .tuple #[.agg zeroM, .int .i64 (d : Int)]) (ret_msg rfl _ _ (w.heap.size + 1) zeroM _ rfl rfl rfl HZ.out) rfl ?_
    unfold MGotN
    rw [← HM.out, ← HD.out, HZm.out]
    exact ⟨.slice none 0 0, .slice none 0 0, .slice none 0 0, [], rfl, fun W _ => ⟨MHas.zero W, mfree_nil _ _⟩, HB3.out.trans (HO.out.below (fun k hk e => by have e : k = w.heap.size + 1 := e; omega) (by omega))⟩

end Go.Proofs.Ytgbhfolbkgibfaa

