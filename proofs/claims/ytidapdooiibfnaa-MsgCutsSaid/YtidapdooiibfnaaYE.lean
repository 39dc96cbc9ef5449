/- Layer 18's reference: Get, a message of the kind 5. -/
import Derived.Test.YtidapdooiibfnaaYC
namespace Go.Proofs.Ytidapdooiibfnaa
set_option maxRecDepth 20000
open Go.RowKit BinMath CmdMath Reg
open MsgMath (Mg St codeS thru tag gRange gYes getM gMsg gEnts)

theorem nrow_far {w w' : World} {B : Nat} {v : Value} {l : List Nat} {S : Nat → Prop} (h : NRow w B v l) (ho : OnlyS S w w') (hS : ∀ k, B ≤ k → ¬ S k) : NRow w' B v l :=
  h.to fun k e => ho.block k (World.ownsRow.lt h k e).2 (hS k (World.ownsRow.lt h k e).1)
theorem row_far {w w' : World} {B : Nat} {v : Value} {l : List UInt8} {S : Nat → Prop} (h : Row w B v l) (ho : OnlyS S w w') (hS : ∀ k, B ≤ k → ¬ S k) : Row w' B v l :=
  row_to h fun k e => ho.block k (World.ownsRow.lt h k e).2 (hS k (World.ownsRow.lt h k e).1)

set_option maxHeartbeats 8000000 in
set_option maxRecDepth 100000 in
theorem msgget_5 (v : Option Addr) (len c : Nat) (l : List UInt8) (w : World) (hx : Bys w (.slice v len c) l) (hl : l.length ≤ 140737488351232) (hlc : len ≤ c) (q : List UInt8) (hg : gByte l = .ok (5, q)) :
    Calls Try.prog 16 #[.slice v len c] w (MGetEnd l w) := by
  have b1 : Below w.heap.size w (((w.alloc (.cells zeroM 27)).alloc (.cells #[.slice v len c, .int .i64 0, .int .i64 0] 65)).alloc (.cells #[.pointer (some ⟨w.heap.size + 1, 0, none⟩), .int .i64 0] 67)) := (((Below.refl _ _).alloc (Nat.le_refl _) _).alloc (by simp) _).alloc (by simp only [World.size_alloc]; omega) _
  have kb := (Blk.newAt (w.alloc (.cells zeroM 27)) 65 _ #[.slice v len c, .int .i64 0, .int .i64 0] (w.heap.size + 1) (by simp) rfl).alloc (.cells #[.pointer (some ⟨w.heap.size + 1, 0, none⟩), .int .i64 0] 67)
  have hA := ref_new (Q := w.heap.size + 1) hx hl hlc (by omega) b1 kb
  have HStart := Lib.hid (show TkAt (((w.alloc (.cells zeroM 27)).alloc (.cells #[.slice v len c, .int .i64 0, .int .i64 0] 65)).alloc (.cells #[.pointer (some ⟨w.heap.size + 1, 0, none⟩), .int .i64 0] 67)) (w.heap.size + 1 + 1) (w.heap.size + 1) w.heap.size v c l (.ok l) ∧ Blk (((w.alloc (.cells zeroM 27)).alloc (.cells #[.slice v len c, .int .i64 0, .int .i64 0] 65)).alloc (.cells #[.pointer (some ⟨w.heap.size + 1, 0, none⟩), .int .i64 0] 67)) w.heap.size 27 zeroM ∧ Below w.heap.size w (((w.alloc (.cells zeroM 27)).alloc (.cells #[.slice v len c, .int .i64 0, .int .i64 0] 65)).alloc (.cells #[.pointer (some ⟨w.heap.size + 1, 0, none⟩), .int .i64 0] 67)) from
    ⟨⟨Blk.newAt _ _ _ _ _ (by simp) rfl, (fun r hr => by cases hr; exact hA), (fun c hc => by cases hc), by simp only [World.size_alloc]; omega, by omega, by omega⟩, ((Blk.new w _ _).alloc _).alloc _, b1⟩)
  clear hx hl hlc b1 kb hA
  go_enter Try.func16, Try.ntmps16
  go_upto_region 2 with fail
  refine world_cut (fun W => TkAt W (w.heap.size + 1 + 1) (w.heap.size + 1) w.heap.size v c l (.ok l) ∧ Blk W w.heap.size 27 zeroM ∧ Below w.heap.size w W) HStart.out ?_
  clear HStart
  rintro w1 ⟨htk, hbr, hbl⟩
  obtain ⟨T, hT⟩ : ∃ T, T = w.heap.size + 1 + 1 := ⟨_, rfl⟩
  obtain ⟨Q, hQ⟩ : ∃ Q, Q = w.heap.size + 1 := ⟨_, rfl⟩
  obtain ⟨R, hR⟩ : ∃ R, R = w.heap.size := ⟨_, rfl⟩
  rw [← hT, ← hQ] at htk
  rw [← hT, ← hQ, ← hR]
  rw [← hR] at hbr
  have hrl : w.heap.size ≤ R := by omega
  have hrq : R < Q := by omega
  have hqt : Q < T := by omega
  have c0 : w1.cell? ⟨T, 0, none⟩ = some (.pointer (some ⟨Q, 0, none⟩)) := by rw [htk.tb.cell]; rfl
  have HTk := Lib.hid htk
  have HBr := Lib.hid hbr
  have HBl := Lib.hid hbl
  clear htk hbr hbl hT hQ hR
  have HN := Lib.hid (show Calls Try.prog 34 #[.pointer (some ⟨Q, 0, none⟩)] w1 fun e w' => e = .returned (.tuple #[.int .u8 5, .int .i64 0]) ∧ RAt w' Q w.heap.size v c l q ∧ Only Q w1 w' from refreadByte_ok (HTk.out.rd l rfl) hg)
  have HByte := Lib.hid hg
  clear hg
  go_wp2_with fail
  refine HN.out.mono ?_
  rintro e w2 ⟨rfl, hr2, ho2⟩
  have htk2 : TkAt w2 T Q w.heap.size v c l (.ok q) := ⟨HTk.out.tb.onlyR ho2 (by omega), (fun r hr => by cases hr; exact hr2), (fun c hc => by cases hc), Nat.lt_of_lt_of_le HTk.out.ql ho2.size, HTk.out.gq, hqt⟩
  have HTk2 := Lib.hid htk2
  have HBr2 := Lib.hid (HBr.out.onlyR ho2 (by omega))
  have HBl2 := Lib.hid (HBl.out.trans (ho2.below (by omega) HBl.out.size))
  clear htk2 hr2 ho2 HN HTk HBr HBl c0
  go_wp2_with (refine wpList_store_all rfl 27 (.tmp 7) (.tmp 41) rfl w2.heap.size #[.int .i64 5, .int .u64 0, .int .u64 0, .int .u64 0, .int .u64 0, .int .u64 0, .int .u64 0, .int .u64 0, .bool false, .slice none 0 0, .slice none 0 0, .slice none 0 0] rfl rfl 27 zeroM (Blk.new w2 _ _) (by kernel_rfl) rfl (by kernel_rfl) ?_; intro wz hbz hoz; (have HBz := Lib.hid hbz); (have HOz := Lib.hid hoz); clear hbz hoz)
  have hG0 : GAt w R Q T w2.heap.size v c l (.ok q) #[.int .i64 5, .int .u64 0, .int .u64 0, .int .u64 0, .int .u64 0, .int .u64 0, .int .u64 0, .int .u64 0, .bool false, .slice none 0 0, .slice none 0 0, .slice none 0 0] wz := by
    have h1 := HTk2.out.tl
    have h2 := HTk2.out.ql
    have h3 := HBr2.out.lt
    have hb := (Below.refl w2.heap.size w2).alloc (Nat.le_refl _) (.cells zeroM 27)
    exact ⟨(HTk2.out.below hb).only HOz.out (fun k hk e => by omega) (by omega) (by omega), (HBr2.out.keep hb).onlyS HOz.out (by omega), HBz.out, (HBl2.out.trans (hb.mono HBl2.out.size)).trans (HOz.out.below (fun k hk e => by have := HBl2.out.size; omega) (by have := HBl2.out.size; simp only [World.size_alloc]; omega)), hrl, hrq, h1⟩
  obtain ⟨Z, hZ⟩ : ∃ Z, Z = w2.heap.size := ⟨_, rfl⟩
  rw [← hZ] at hG0 ⊢
  have HG0 := Lib.hid hG0
  clear hG0 hZ HTk2 HBr2 HBl2 HBz HOz
  refine (tknum_any 1 7 (by decide) (by decide) HG0.out.tk).mono ?_
  rintro e x34 ⟨nf, s34, rfl, hv34, ht34, tk34, ho34⟩
  have HV34 := Lib.hid hv34
  have HT34 := Lib.hid ht34
  have HG34 := Lib.hid (HG0.out.call tk34 ho34)
  clear hv34 ht34 tk34 ho34 HG0
  go_wp2_with (refine wpList_store_fld rfl 22 (.tmp 44) (.tmp 43) rfl Z 1 (.int .u64 (nf : Int)) rfl rfl 27 #[.int .i64 5, .int .u64 0, .int .u64 0, .int .u64 0, .int .u64 0, .int .u64 0, .int .u64 0, .int .u64 0, .bool false, .slice none 0 0, .slice none 0 0, .slice none 0 0] #[.int .i64 5, .int .u64 (nf : Int), .int .u64 0, .int .u64 0, .int .u64 0, .int .u64 0, .int .u64 0, .int .u64 0, .bool false, .slice none 0 0, .slice none 0 0, .slice none 0 0] HG34.out.bz (by simp) rfl (by kernel_rfl) rfl ?_; intro y35 hb ho; (have HG35 := Lib.hid (HG34.out.set hb ho)); clear hb ho HG34)
  refine (tknum_any 1 7 (by decide) (by decide) HG35.out.tk).mono ?_
  rintro e x36 ⟨no, s36, rfl, hv36, ht36, tk36, ho36⟩
  have HV36 := Lib.hid hv36
  have HT36 := Lib.hid ht36
  have HG36 := Lib.hid (HG35.out.call tk36 ho36)
  clear hv36 ht36 tk36 ho36 HG35
  go_wp2_with (refine wpList_store_fld rfl 22 (.tmp 47) (.tmp 46) rfl Z 2 (.int .u64 (no : Int)) rfl rfl 27 #[.int .i64 5, .int .u64 (nf : Int), .int .u64 0, .int .u64 0, .int .u64 0, .int .u64 0, .int .u64 0, .int .u64 0, .bool false, .slice none 0 0, .slice none 0 0, .slice none 0 0] #[.int .i64 5, .int .u64 (nf : Int), .int .u64 (no : Int), .int .u64 0, .int .u64 0, .int .u64 0, .int .u64 0, .int .u64 0, .bool false, .slice none 0 0, .slice none 0 0, .slice none 0 0] HG36.out.bz (by simp) rfl (by kernel_rfl) rfl ?_; intro y37 hb ho; (have HG37 := Lib.hid (HG36.out.set hb ho)); clear hb ho HG36)
  refine (tknum_any 1 4611686018427387904 (by decide) (by decide) HG37.out.tk).mono ?_
  rintro e x38 ⟨nt, s38, rfl, hv38, ht38, tk38, ho38⟩
  have HV38 := Lib.hid hv38
  have HT38 := Lib.hid ht38
  have HG38 := Lib.hid (HG37.out.call tk38 ho38)
  clear hv38 ht38 tk38 ho38 HG37
  go_wp2_with (refine wpList_store_fld rfl 22 (.tmp 50) (.tmp 49) rfl Z 3 (.int .u64 (nt : Int)) rfl rfl 27 #[.int .i64 5, .int .u64 (nf : Int), .int .u64 (no : Int), .int .u64 0, .int .u64 0, .int .u64 0, .int .u64 0, .int .u64 0, .bool false, .slice none 0 0, .slice none 0 0, .slice none 0 0] #[.int .i64 5, .int .u64 (nf : Int), .int .u64 (no : Int), .int .u64 (nt : Int), .int .u64 0, .int .u64 0, .int .u64 0, .int .u64 0, .bool false, .slice none 0 0, .slice none 0 0, .slice none 0 0] HG38.out.bz (by simp) rfl (by kernel_rfl) rfl ?_; intro y39 hb ho; (have HG39 := Lib.hid (HG38.out.set hb ho)); (have cz : y39.cell? ⟨Z, 0, none⟩ = some (.int .i64 5) := by rw [hb.cell]; rfl); clear hb ho HG38)
  refine (tknum_any 0 4611686018427387904 (by decide) (by decide) HG39.out.tk).mono ?_
  rintro e x40 ⟨ni, s40, rfl, hv40, ht40, tk40, ho40⟩
  have HV40 := Lib.hid hv40
  have HT40 := Lib.hid ht40
  have HG40 := Lib.hid (HG39.out.call tk40 ho40)
  clear hv40 ht40 tk40 ho40 HG39
  go_wp2_with (refine wpList_store_fld rfl 22 (.tmp 153) (.tmp 152) rfl Z 4 (.int .u64 (ni : Int)) rfl rfl 27 #[.int .i64 5, .int .u64 (nf : Int), .int .u64 (no : Int), .int .u64 (nt : Int), .int .u64 0, .int .u64 0, .int .u64 0, .int .u64 0, .bool false, .slice none 0 0, .slice none 0 0, .slice none 0 0] #[.int .i64 5, .int .u64 (nf : Int), .int .u64 (no : Int), .int .u64 (nt : Int), .int .u64 (ni : Int), .int .u64 0, .int .u64 0, .int .u64 0, .bool false, .slice none 0 0, .slice none 0 0, .slice none 0 0] HG40.out.bz (by simp) rfl (by kernel_rfl) rfl ?_; intro y41 hb ho; (have HG41 := Lib.hid (HG40.out.set hb ho)); clear hb ho HG40)
  refine (tknum_any 0 4611686018427387904 (by decide) (by decide) HG41.out.tk).mono ?_
  rintro e x42 ⟨nl, s42, rfl, hv42, ht42, tk42, ho42⟩
  have HV42 := Lib.hid hv42
  have HT42 := Lib.hid ht42
  have HG42 := Lib.hid (HG41.out.call tk42 ho42)
  clear hv42 ht42 tk42 ho42 HG41
  go_wp2_with (refine wpList_store_fld rfl 22 (.tmp 156) (.tmp 155) rfl Z 5 (.int .u64 (nl : Int)) rfl rfl 27 #[.int .i64 5, .int .u64 (nf : Int), .int .u64 (no : Int), .int .u64 (nt : Int), .int .u64 (ni : Int), .int .u64 0, .int .u64 0, .int .u64 0, .bool false, .slice none 0 0, .slice none 0 0, .slice none 0 0] #[.int .i64 5, .int .u64 (nf : Int), .int .u64 (no : Int), .int .u64 (nt : Int), .int .u64 (ni : Int), .int .u64 (nl : Int), .int .u64 0, .int .u64 0, .bool false, .slice none 0 0, .slice none 0 0, .slice none 0 0] HG42.out.bz (by simp) rfl (by kernel_rfl) rfl ?_; intro y43 hb ho; (have HG43 := Lib.hid (HG42.out.set hb ho)); clear hb ho HG42)
  refine (tknum_any 0 18446744073709551615 (by decide) (by decide) HG43.out.tk).mono ?_
  rintro e x44 ⟨ns, s44, rfl, hv44, ht44, tk44, ho44⟩
  have HV44 := Lib.hid hv44
  have HT44 := Lib.hid ht44
  have HG44 := Lib.hid (HG43.out.call tk44 ho44)
  clear hv44 ht44 tk44 ho44 HG43
  go_upto_region 43 with (refine wpList_store_fld rfl 22 (.tmp 160) (.tmp 159) rfl Z 7 (.int .u64 (ns : Int)) rfl rfl 27 #[.int .i64 5, .int .u64 (nf : Int), .int .u64 (no : Int), .int .u64 (nt : Int), .int .u64 (ni : Int), .int .u64 (nl : Int), .int .u64 0, .int .u64 0, .bool false, .slice none 0 0, .slice none 0 0, .slice none 0 0] #[.int .i64 5, .int .u64 (nf : Int), .int .u64 (no : Int), .int .u64 (nt : Int), .int .u64 (ni : Int), .int .u64 (nl : Int), .int .u64 0, .int .u64 (ns : Int), .bool false, .slice none 0 0, .slice none 0 0, .slice none 0 0] HG44.out.bz (by simp) rfl (by kernel_rfl) rfl ?_; intro y45 hb ho; (have HG45 := Lib.hid (HG44.out.set hb ho)); clear hb ho HG44)
  cases s44 with
  | error cc =>
    have hcc := HG45.out.tk.er cc rfl
    have c0 : y45.cell? ⟨T, 0, none⟩ = some (.pointer (some ⟨Q, 0, none⟩)) := by rw [HG45.out.tk.tb.cell]; rfl
    have c1 : y45.cell? ⟨T, 1, none⟩ = some (.int .i64 (cc : Int)) := by rw [HG45.out.tk.tb.cell]; rfl
    have hz : ((cc : Int) == 0) = false := by simp; omega
    have hz2 : ((cc : Int) != 0) = true := by simp; omega
    have HGet := Lib.hid (show getM l = (Mg.zero, cc) from MsgMath.getM_fault (show gMsg l = tag (⟨5, nf, no, nt, ni, nl, 0, ns, false, [], [], []⟩ : Mg) (.error cc) from (MsgMath.msg_head HByte.out (by omega) HT34.out HT36.out HT38.out).trans (MsgMath.body_5 HT40.out HT42.out HT44.out (show thru gMem (.error cc : St) = tag [] (.error cc) from rfl) (show thru (gText 16384) (.error cc : St) = tag [] (.error cc) from rfl))))
    go_upto_region 50 with fail
    clear c0 c1
    have hgr := HG45.out
    have h1 := hgr.rl
    have h2 := hgr.rq
    have h3 := hgr.tk.qt
    refine region_by [(213, .is (.agg zeroM)), (214, .is (.pointer (some ⟨T, 0, none⟩))), (215, .is (.pointer (some ⟨T, 0, none⟩))), (216, .is (.pointer (some ⟨T, 1, none⟩))), (217, .is (.int .i64 (cc : Int))), (3, .is (.int .i64 (cc : Int)))] [2, 3] (fun W => OnlyS (fun k => k = R) y45 W ∧ Blk W R 27 zeroM) (by kernel_rfl) (by kernel_rfl) (by kernel_rfl) (by kernel_rfl) (by kernel_rfl) ⟨(OnlyS.refl _ _).drew, hgr.br.keep ((Below.refl _ _).drew)⟩ ?_ ?_
    · refine ⟨?c0, ?c1, ?c2, ?c3, ?c4, ?c5, ?c6, trivial⟩
      case c0 => exact ask_exec (guard_none rfl) (.agg zeroM) rfl rfl (by intro k hk; cases hk; rfl) (fun W hW => by kernel_rfl)
      case c1 => exact ask_copy (guard_none rfl) (.tmp 4) (.inl rfl) (by intro k hk; cases hk; rfl)
      case c2 => exact ask_exec (guard_none rfl) (.pointer (some ⟨T, 0, none⟩)) rfl rfl (by intro k hk; cases hk; rfl) (fun W hW => by kernel_rfl)
      case c3 => exact ask_field (guard_none rfl) _ (.tmp 215) 1 (.pointer (some ⟨T, 0, none⟩)) (.pointer (some ⟨T, 1, none⟩)) rfl rfl (by intro k hk; cases hk; rfl) (fun W => by kernel_rfl)
      case c4 => exact ask_load (guard_none rfl) _ (.tmp 216) (.pointer (some ⟨T, 1, none⟩)) (.int .i64 (cc : Int)) rfl rfl (by intro k hk; cases hk; rfl) (fun W hW => load_err W _ _ (by rw [(hgr.tk.tb.onlyS hW.1 (by omega)).cell]; rfl))
      case c5 => exact ask_store_same (guard_none rfl) 27 (.tmp 2) (.tmp 213) R zeroM rfl rfl rfl rfl (facts_is (by simp [isFact])) (fun W hW => ⟨hW.2.stores 27 _ (by kernel_rfl) rfl (by kernel_rfl), hW.1.trans (setRow_onlyS W R zeroM), hW.2.row _⟩)
      case c6 => exact ask_copy (guard_none rfl) (.tmp 217) (.inr rfl) (by intro k hk; cases hk; rfl)
    · intro a' W hW hd' hs' hf'
      have t2 : a'.tmps.getD 2 undef = .pointer (some ⟨R, 0, none⟩) := hf' 2 rfl
      have t3 : a'.tmps.getD 3 undef = .int .i64 (cc : Int) := hf' 3 rfl
      obtain ⟨us', hus, ha'⟩ := act_open 219 a' hs' hd'
      rw [← hus] at t2 t3
      have el : ((List.range 219).map us').toArray = #[us' 0, us' 1, .pointer (some ⟨R, 0, none⟩), .int .i64 (cc : Int), us' 4, us' 5, us' 6, us' 7, us' 8, us' 9, us' 10, us' 11, us' 12, us' 13, us' 14, us' 15, us' 16, us' 17, us' 18, us' 19, us' 20, us' 21, us' 22, us' 23, us' 24, us' 25, us' 26, us' 27, us' 28, us' 29, us' 30, us' 31, us' 32, us' 33, us' 34, us' 35, us' 36, us' 37, us' 38, us' 39, us' 40, us' 41, us' 42, us' 43, us' 44, us' 45, us' 46, us' 47, us' 48, us' 49, us' 50, us' 51, us' 52, us' 53, us' 54, us' 55, us' 56, us' 57, us' 58, us' 59, us' 60, us' 61, us' 62, us' 63, us' 64, us' 65, us' 66, us' 67, us' 68, us' 69, us' 70, us' 71, us' 72, us' 73, us' 74, us' 75, us' 76, us' 77, us' 78, us' 79, us' 80, us' 81, us' 82, us' 83, us' 84, us' 85, us' 86, us' 87, us' 88, us' 89, us' 90, us' 91, us' 92, us' 93, us' 94, us' 95, us' 96, us' 97, us' 98, us' 99, us' 100, us' 101, us' 102, us' 103, us' 104, us' 105, us' 106, us' 107, us' 108, us' 109, us' 110, us' 111, us' 112, us' 113, us' 114, us' 115, us' 116, us' 117, us' 118, us' 119, us' 120, us' 121, us' 122, us' 123, us' 124, us' 125, us' 126, us' 127, us' 128, us' 129, us' 130, us' 131, us' 132, us' 133, us' 134, us' 135, us' 136, us' 137, us' 138, us' 139, us' 140, us' 141, us' 142, us' 143, us' 144, us' 145, us' 146, us' 147, us' 148, us' 149, us' 150, us' 151, us' 152, us' 153, us' 154, us' 155, us' 156, us' 157, us' 158, us' 159, us' 160, us' 161, us' 162, us' 163, us' 164, us' 165, us' 166, us' 167, us' 168, us' 169, us' 170, us' 171, us' 172, us' 173, us' 174, us' 175, us' 176, us' 177, us' 178, us' 179, us' 180, us' 181, us' 182, us' 183, us' 184, us' 185, us' 186, us' 187, us' 188, us' 189, us' 190, us' 191, us' 192, us' 193, us' 194, us' 195, us' 196, us' 197, us' 198, us' 199, us' 200, us' 201, us' 202, us' 203, us' 204, us' 205, us' 206, us' 207, us' 208, us' 209, us' 210, us' 211, us' 212, us' 213, us' 214, us' 215, us' 216, us' 217, us' 218] := by
        show #[us' 0, us' 1, us' 2, us' 3, us' 4, us' 5, us' 6, us' 7, us' 8, us' 9, us' 10, us' 11, us' 12, us' 13, us' 14, us' 15, us' 16, us' 17, us' 18, us' 19, us' 20, us' 21, us' 22, us' 23, us' 24, us' 25, us' 26, us' 27, us' 28, us' 29, us' 30, us' 31, us' 32, us' 33, us' 34, us' 35, us' 36, us' 37, us' 38, us' 39, us' 40, us' 41, us' 42, us' 43, us' 44, us' 45, us' 46, us' 47, us' 48, us' 49, us' 50, us' 51, us' 52, us' 53, us' 54, us' 55, us' 56, us' 57, us' 58, us' 59, us' 60, us' 61, us' 62, us' 63, us' 64, us' 65, us' 66, us' 67, us' 68, us' 69, us' 70, us' 71, us' 72, us' 73, us' 74, us' 75, us' 76, us' 77, us' 78, us' 79, us' 80, us' 81, us' 82, us' 83, us' 84, us' 85, us' 86, us' 87, us' 88, us' 89, us' 90, us' 91, us' 92, us' 93, us' 94, us' 95, us' 96, us' 97, us' 98, us' 99, us' 100, us' 101, us' 102, us' 103, us' 104, us' 105, us' 106, us' 107, us' 108, us' 109, us' 110, us' 111, us' 112, us' 113, us' 114, us' 115, us' 116, us' 117, us' 118, us' 119, us' 120, us' 121, us' 122, us' 123, us' 124, us' 125, us' 126, us' 127, us' 128, us' 129, us' 130, us' 131, us' 132, us' 133, us' 134, us' 135, us' 136, us' 137, us' 138, us' 139, us' 140, us' 141, us' 142, us' 143, us' 144, us' 145, us' 146, us' 147, us' 148, us' 149, us' 150, us' 151, us' 152, us' 153, us' 154, us' 155, us' 156, us' 157, us' 158, us' 159, us' 160, us' 161, us' 162, us' 163, us' 164, us' 165, us' 166, us' 167, us' 168, us' 169, us' 170, us' 171, us' 172, us' 173, us' 174, us' 175, us' 176, us' 177, us' 178, us' 179, us' 180, us' 181, us' 182, us' 183, us' 184, us' 185, us' 186, us' 187, us' 188, us' 189, us' 190, us' 191, us' 192, us' 193, us' 194, us' 195, us' 196, us' 197, us' 198, us' 199, us' 200, us' 201, us' 202, us' 203, us' 204, us' 205, us' 206, us' 207, us' 208, us' 209, us' 210, us' 211, us' 212, us' 213, us' 214, us' 215, us' 216, us' 217, us' 218] = _
        rw [t2, t3]
      rw [el] at ha'
      subst ha'
      clear hus t2 t3 el hf' hs' hd'
      have HW := Lib.hid hW
      clear hW
      go_wp2
      exact bodyPost_ret (v := .tuple #[.agg zeroM, .int .i64 (cc : Int)]) (ret_msg rfl _ _ R zeroM _ rfl rfl rfl HW.out.2) rfl (mGetEnd_err HGet.out (hgr.bl.trans (HW.out.1.below (fun k hk e => by omega) hgr.bl.size)))
  | ok r0 =>
    have c0 : y45.cell? ⟨T, 0, none⟩ = some (.pointer (some ⟨Q, 0, none⟩)) := by rw [HG45.out.tk.tb.cell]; rfl
    have c1 : y45.cell? ⟨T, 1, none⟩ = some (.int .i64 0) := by rw [HG45.out.tk.tb.cell]; rfl
    have HIds := Lib.hid (ids_any (HG45.out.tk.rd r0 rfl))
    cases hgm : gMem r0 with
    | error cm =>
      have hcm := gMem_err hgm
      have HI2 := Lib.hid (show Calls Try.prog 39 #[.pointer (some ⟨Q, 0, none⟩)] y45 fun e w' => e = .returned (.tuple #[.slice none 0 0, .int .i64 (cm : Int)]) ∧ Only Q y45 w' from HIds.out.mono fun e w' h => by unfold IdsEnd at h; rw [hgm] at h; exact ⟨h.2, h.1⟩)
      have HGm := Lib.hid hgm
      clear hgm HIds
      go_wp2_with fail
      refine HI2.out.mono ?_
      rintro e wi ⟨rfl, hoq⟩
      clear c0 c1 HI2
      have HQ90 := Lib.hid hoq
      have htb90 := HG45.out.tk.tb.onlyR hoq (by have := HG45.out.tk.qt; omega)
      have HTb90 := Lib.hid htb90
      have HZb90 := Lib.hid (HG45.out.bz.onlyR hoq (by have h1 := HG45.out.tk.qt; have h2 := HG45.out.tz; omega))
      clear htb90
      have HOq := Lib.hid hoq
      clear hoq
      have hqt := HG45.out.tk.qt
      have htz := HG45.out.tz
      have hrq := HG45.out.rq
      go_upto_region 45 with (first
        | (refine wpList_store_fld rfl 24 (.tmp 175) (.tmp 173) rfl Z 10 (.slice none 0 0) rfl rfl 27 #[.int .i64 5, .int .u64 (nf : Int), .int .u64 (no : Int), .int .u64 (nt : Int), .int .u64 (ni : Int), .int .u64 (nl : Int), .int .u64 0, .int .u64 (ns : Int), .bool false, .slice none 0 0, .slice none 0 0, .slice none 0 0] #[.int .i64 5, .int .u64 (nf : Int), .int .u64 (no : Int), .int .u64 (nt : Int), .int .u64 (ni : Int), .int .u64 (nl : Int), .int .u64 0, .int .u64 (ns : Int), .bool false, .slice none 0 0, .slice none 0 0, .slice none 0 0] HZb90.out (by simp) rfl (by kernel_rfl) rfl ?_; intro wj hb ho; (have HBj := Lib.hid hb); (have HOj := Lib.hid ho); (have HTj := Lib.hid (HTb90.out.onlyS ho (by omega))); clear hb ho)
        | (refine wpList_store_fld rfl 30 (.tmp 177) (.tmp 174) rfl T 1 (.int .i64 (cm : Int)) rfl rfl 67 #[.pointer (some ⟨Q, 0, none⟩), .int .i64 0] #[.pointer (some ⟨Q, 0, none⟩), .int .i64 (cm : Int)] HTj.out (by simp) rfl (by kernel_rfl) rfl ?_; intro wk hb ho; (have HBk := Lib.hid hb); (have HOk := Lib.hid ho); clear hb ho))
      have hgk : GAt w R Q T Z v c l (.error cm) #[.int .i64 5, .int .u64 (nf : Int), .int .u64 (no : Int), .int .u64 (nt : Int), .int .u64 (ni : Int), .int .u64 (nl : Int), .int .u64 0, .int .u64 (ns : Int), .bool false, .slice none 0 0, .slice none 0 0, .slice none 0 0] wk := by
        have h0 := HG45.out
        have h1 := h0.rl
        have hp := h0.tk.put (st' := .error cm) HOq.out (w2 := wk) (fun r e => by cases e) (fun d e => by cases e; omega) HBk.out
        have hos : OnlyS (fun k => k = Q ∨ k = T ∨ k = Z) y45 wk := ((OnlyS.of_only HOq.out (.inl rfl)).trans (HOj.out.mono fun _ _ e => .inr (.inr e))).trans (HOk.out.mono fun _ _ e => .inr (.inl e))
        exact ⟨⟨HBk.out, (fun r e => by cases e), (fun d e => by cases e; omega), Nat.lt_of_lt_of_le h0.tk.ql hos.size, h0.tk.gq, h0.tk.qt⟩, h0.br.onlyS hos (by omega), HBj.out.onlyS HOk.out (by omega), h0.bl.trans (hos.below (fun k hk e => by have := h0.tk.gq; rcases e with e | e | e <;> omega) h0.bl.size), h0.rl, h0.rq, h0.tz⟩
      have HGk := Lib.hid hgk
      clear hgk HBj HOj HTj HBk HOk HOq HQ90 HTb90 HZb90
      have c0 : wk.cell? ⟨T, 0, none⟩ = some (.pointer (some ⟨Q, 0, none⟩)) := by rw [HGk.out.tk.tb.cell]; rfl
      have c1 : wk.cell? ⟨T, 1, none⟩ = some (.int .i64 (cm : Int)) := by rw [HGk.out.tk.tb.cell]; rfl
      have hz : ((cm : Int) == 0) = false := by simp; omega
      have hz2 : ((cm : Int) != 0) = true := by simp; omega
      have HGet := Lib.hid (show getM l = (Mg.zero, cm) from MsgMath.getM_fault (show gMsg l = tag (⟨5, nf, no, nt, ni, nl, 0, ns, false, [], [], []⟩ : Mg) (.error cm) from (MsgMath.msg_head HByte.out (by omega) HT34.out HT36.out HT38.out).trans (MsgMath.body_5 HT40.out HT42.out HT44.out (show thru gMem (.ok r0 : St) = tag [] (.error cm) from HGm.out) (show thru (gText 16384) (.error cm : St) = tag [] (.error cm) from rfl))))
      go_upto_region 50 with fail
      clear c0 c1
      have hgr := HGk.out
      have h1 := hgr.rl
      have h2 := hgr.rq
      have h3 := hgr.tk.qt
      refine region_by [(213, .is (.agg zeroM)), (214, .is (.pointer (some ⟨T, 0, none⟩))), (215, .is (.pointer (some ⟨T, 0, none⟩))), (216, .is (.pointer (some ⟨T, 1, none⟩))), (217, .is (.int .i64 (cm : Int))), (3, .is (.int .i64 (cm : Int)))] [2, 3] (fun W => OnlyS (fun k => k = R) wk W ∧ Blk W R 27 zeroM) (by kernel_rfl) (by kernel_rfl) (by kernel_rfl) (by kernel_rfl) (by kernel_rfl) ⟨(OnlyS.refl _ _).drew, hgr.br.keep ((Below.refl _ _).drew)⟩ ?_ ?_
      · refine ⟨?c0, ?c1, ?c2, ?c3, ?c4, ?c5, ?c6, trivial⟩
        case c0 => exact ask_exec (guard_none rfl) (.agg zeroM) rfl rfl (by intro k hk; cases hk; rfl) (fun W hW => by kernel_rfl)
        case c1 => exact ask_copy (guard_none rfl) (.tmp 4) (.inl rfl) (by intro k hk; cases hk; rfl)
        case c2 => exact ask_exec (guard_none rfl) (.pointer (some ⟨T, 0, none⟩)) rfl rfl (by intro k hk; cases hk; rfl) (fun W hW => by kernel_rfl)
        case c3 => exact ask_field (guard_none rfl) _ (.tmp 215) 1 (.pointer (some ⟨T, 0, none⟩)) (.pointer (some ⟨T, 1, none⟩)) rfl rfl (by intro k hk; cases hk; rfl) (fun W => by kernel_rfl)
        case c4 => exact ask_load (guard_none rfl) _ (.tmp 216) (.pointer (some ⟨T, 1, none⟩)) (.int .i64 (cm : Int)) rfl rfl (by intro k hk; cases hk; rfl) (fun W hW => load_err W _ _ (by rw [(hgr.tk.tb.onlyS hW.1 (by omega)).cell]; rfl))
        case c5 => exact ask_store_same (guard_none rfl) 27 (.tmp 2) (.tmp 213) R zeroM rfl rfl rfl rfl (facts_is (by simp [isFact])) (fun W hW => ⟨hW.2.stores 27 _ (by kernel_rfl) rfl (by kernel_rfl), hW.1.trans (setRow_onlyS W R zeroM), hW.2.row _⟩)
        case c6 => exact ask_copy (guard_none rfl) (.tmp 217) (.inr rfl) (by intro k hk; cases hk; rfl)
      · intro a' W hW hd' hs' hf'
        have t2 : a'.tmps.getD 2 undef = .pointer (some ⟨R, 0, none⟩) := hf' 2 rfl
        have t3 : a'.tmps.getD 3 undef = .int .i64 (cm : Int) := hf' 3 rfl
        obtain ⟨us', hus, ha'⟩ := act_open 219 a' hs' hd'
        rw [← hus] at t2 t3
        have el : ((List.range 219).map us').toArray = #[us' 0, us' 1, .pointer (some ⟨R, 0, none⟩), .int .i64 (cm : Int), us' 4, us' 5, us' 6, us' 7, us' 8, us' 9, us' 10, us' 11, us' 12, us' 13, us' 14, us' 15, us' 16, us' 17, us' 18, us' 19, us' 20, us' 21, us' 22, us' 23, us' 24, us' 25, us' 26, us' 27, us' 28, us' 29, us' 30, us' 31, us' 32, us' 33, us' 34, us' 35, us' 36, us' 37, us' 38, us' 39, us' 40, us' 41, us' 42, us' 43, us' 44, us' 45, us' 46, us' 47, us' 48, us' 49, us' 50, us' 51, us' 52, us' 53, us' 54, us' 55, us' 56, us' 57, us' 58, us' 59, us' 60, us' 61, us' 62, us' 63, us' 64, us' 65, us' 66, us' 67, us' 68, us' 69, us' 70, us' 71, us' 72, us' 73, us' 74, us' 75, us' 76, us' 77, us' 78, us' 79, us' 80, us' 81, us' 82, us' 83, us' 84, us' 85, us' 86, us' 87, us' 88, us' 89, us' 90, us' 91, us' 92, us' 93, us' 94, us' 95, us' 96, us' 97, us' 98, us' 99, us' 100, us' 101, us' 102, us' 103, us' 104, us' 105, us' 106, us' 107, us' 108, us' 109, us' 110, us' 111, us' 112, us' 113, us' 114, us' 115, us' 116, us' 117, us' 118, us' 119, us' 120, us' 121, us' 122, us' 123, us' 124, us' 125, us' 126, us' 127, us' 128, us' 129, us' 130, us' 131, us' 132, us' 133, us' 134, us' 135, us' 136, us' 137, us' 138, us' 139, us' 140, us' 141, us' 142, us' 143, us' 144, us' 145, us' 146, us' 147, us' 148, us' 149, us' 150, us' 151, us' 152, us' 153, us' 154, us' 155, us' 156, us' 157, us' 158, us' 159, us' 160, us' 161, us' 162, us' 163, us' 164, us' 165, us' 166, us' 167, us' 168, us' 169, us' 170, us' 171, us' 172, us' 173, us' 174, us' 175, us' 176, us' 177, us' 178, us' 179, us' 180, us' 181, us' 182, us' 183, us' 184, us' 185, us' 186, us' 187, us' 188, us' 189, us' 190, us' 191, us' 192, us' 193, us' 194, us' 195, us' 196, us' 197, us' 198, us' 199, us' 200, us' 201, us' 202, us' 203, us' 204, us' 205, us' 206, us' 207, us' 208, us' 209, us' 210, us' 211, us' 212, us' 213, us' 214, us' 215, us' 216, us' 217, us' 218] := by
          show #[us' 0, us' 1, us' 2, us' 3, us' 4, us' 5, us' 6, us' 7, us' 8, us' 9, us' 10, us' 11, us' 12, us' 13, us' 14, us' 15, us' 16, us' 17, us' 18, us' 19, us' 20, us' 21, us' 22, us' 23, us' 24, us' 25, us' 26, us' 27, us' 28, us' 29, us' 30, us' 31, us' 32, us' 33, us' 34, us' 35, us' 36, us' 37, us' 38, us' 39, us' 40, us' 41, us' 42, us' 43, us' 44, us' 45, us' 46, us' 47, us' 48, us' 49, us' 50, us' 51, us' 52, us' 53, us' 54, us' 55, us' 56, us' 57, us' 58, us' 59, us' 60, us' 61, us' 62, us' 63, us' 64, us' 65, us' 66, us' 67, us' 68, us' 69, us' 70, us' 71, us' 72, us' 73, us' 74, us' 75, us' 76, us' 77, us' 78, us' 79, us' 80, us' 81, us' 82, us' 83, us' 84, us' 85, us' 86, us' 87, us' 88, us' 89, us' 90, us' 91, us' 92, us' 93, us' 94, us' 95, us' 96, us' 97, us' 98, us' 99, us' 100, us' 101, us' 102, us' 103, us' 104, us' 105, us' 106, us' 107, us' 108, us' 109, us' 110, us' 111, us' 112, us' 113, us' 114, us' 115, us' 116, us' 117, us' 118, us' 119, us' 120, us' 121, us' 122, us' 123, us' 124, us' 125, us' 126, us' 127, us' 128, us' 129, us' 130, us' 131, us' 132, us' 133, us' 134, us' 135, us' 136, us' 137, us' 138, us' 139, us' 140, us' 141, us' 142, us' 143, us' 144, us' 145, us' 146, us' 147, us' 148, us' 149, us' 150, us' 151, us' 152, us' 153, us' 154, us' 155, us' 156, us' 157, us' 158, us' 159, us' 160, us' 161, us' 162, us' 163, us' 164, us' 165, us' 166, us' 167, us' 168, us' 169, us' 170, us' 171, us' 172, us' 173, us' 174, us' 175, us' 176, us' 177, us' 178, us' 179, us' 180, us' 181, us' 182, us' 183, us' 184, us' 185, us' 186, us' 187, us' 188, us' 189, us' 190, us' 191, us' 192, us' 193, us' 194, us' 195, us' 196, us' 197, us' 198, us' 199, us' 200, us' 201, us' 202, us' 203, us' 204, us' 205, us' 206, us' 207, us' 208, us' 209, us' 210, us' 211, us' 212, us' 213, us' 214, us' 215, us' 216, us' 217, us' 218] = _
          rw [t2, t3]
        rw [el] at ha'
        subst ha'
        clear hus t2 t3 el hf' hs' hd'
        have HW := Lib.hid hW
        clear hW
        go_wp2
        exact bodyPost_ret (v := .tuple #[.agg zeroM, .int .i64 (cm : Int)]) (ret_msg rfl _ _ R zeroM _ rfl rfl rfl HW.out.2) rfl (mGetEnd_err HGet.out (hgr.bl.trans (HW.out.1.below (fun k hk e => by omega) hgr.bl.size)))
    | ok pm =>
      obtain ⟨mm, q1⟩ := pm
      have HI2 := Lib.hid (show Calls Try.prog 39 #[.pointer (some ⟨Q, 0, none⟩)] y45 fun e w' => ∃ vm, e = .returned (.tuple #[vm, .int .i64 0]) ∧ NRow w' y45.heap.size vm mm ∧ RAt w' Q w.heap.size v c l q1 ∧ Only Q y45 w' from HIds.out.mono fun e w' h => by unfold IdsEnd at h; rw [hgm] at h; obtain ⟨h1, vm, h2, h3, h4⟩ := h; exact ⟨vm, h2, h3, h4, h1⟩)
      have HGm := Lib.hid hgm
      clear hgm HIds
      have hzl := HG45.out.bz.lt
      go_wp2_with fail
      refine HI2.out.mono ?_
      rintro e wi ⟨vm, rfl, hnr, hra, hoq⟩
      have HNR := Lib.hid (nrow_low hnr (show Z + 1 ≤ y45.heap.size by omega))
      obtain ⟨va, vc, rfl⟩ : ∃ a c, vm = .slice a mm.length c := hnr.nums.shape
      have HRA := Lib.hid hra
      clear c0 c1 HI2 hnr hra
      have HQ91 := Lib.hid hoq
      have htb91 := HG45.out.tk.tb.onlyR hoq (by have := HG45.out.tk.qt; omega)
      have HTb91 := Lib.hid htb91
      have HZb91 := Lib.hid (HG45.out.bz.onlyR hoq (by have h1 := HG45.out.tk.qt; have h2 := HG45.out.tz; omega))
      clear htb91
      have HOq := Lib.hid hoq
      clear hoq
      have hqt := HG45.out.tk.qt
      have htz := HG45.out.tz
      have hrq := HG45.out.rq
      go_upto_region 45 with (first
        | (refine wpList_store_fld rfl 24 (.tmp 175) (.tmp 173) rfl Z 10 (.slice va mm.length vc) rfl rfl 27 #[.int .i64 5, .int .u64 (nf : Int), .int .u64 (no : Int), .int .u64 (nt : Int), .int .u64 (ni : Int), .int .u64 (nl : Int), .int .u64 0, .int .u64 (ns : Int), .bool false, .slice none 0 0, .slice none 0 0, .slice none 0 0] #[.int .i64 5, .int .u64 (nf : Int), .int .u64 (no : Int), .int .u64 (nt : Int), .int .u64 (ni : Int), .int .u64 (nl : Int), .int .u64 0, .int .u64 (ns : Int), .bool false, .slice none 0 0, .slice va mm.length vc, .slice none 0 0] HZb91.out (by simp) rfl (by kernel_rfl) rfl ?_; intro wj hb ho; (have HBj := Lib.hid hb); (have HOj := Lib.hid ho); (have HTj := Lib.hid (HTb91.out.onlyS ho (by omega))); clear hb ho)
        | (refine wpList_store_fld rfl 30 (.tmp 177) (.tmp 174) rfl T 1 (.int .i64 0) rfl rfl 67 #[.pointer (some ⟨Q, 0, none⟩), .int .i64 0] #[.pointer (some ⟨Q, 0, none⟩), .int .i64 0] HTj.out (by simp) rfl (by kernel_rfl) rfl ?_; intro wk hb ho; (have HBk := Lib.hid hb); (have HOk := Lib.hid ho); clear hb ho))
      have hgk : GAt w R Q T Z v c l (.ok q1) #[.int .i64 5, .int .u64 (nf : Int), .int .u64 (no : Int), .int .u64 (nt : Int), .int .u64 (ni : Int), .int .u64 (nl : Int), .int .u64 0, .int .u64 (ns : Int), .bool false, .slice none 0 0, .slice va mm.length vc, .slice none 0 0] wk ∧ NRow wk (Z + 1) (.slice va mm.length vc) mm := by
        have h0 := HG45.out
        have h1 := h0.rl
        have ho2 : OnlyS (fun k => k = T ∨ k = Z) wi wk := (HOj.out.mono fun _ _ e => .inr e).trans (HOk.out.mono fun _ _ e => .inl e)
        have hos : OnlyS (fun k => k = Q ∨ k = T ∨ k = Z) y45 wk := (OnlyS.of_only HOq.out (.inl rfl)).trans (ho2.mono fun _ _ e => .inr e)
        exact ⟨⟨⟨HBk.out, (fun r e => by cases e; exact HRA.out.only ho2 (fun k hk e => by have := h0.tk.gq; rcases e with e | e <;> omega) (by omega)), (fun d e => by cases e), Nat.lt_of_lt_of_le h0.tk.ql hos.size, h0.tk.gq, h0.tk.qt⟩, h0.br.onlyS hos (by omega), HBj.out.onlyS HOk.out (by omega), h0.bl.trans (hos.below (fun k hk e => by have := h0.tk.gq; rcases e with e | e | e <;> omega) h0.bl.size), h0.rl, h0.rq, h0.tz⟩, nrow_far HNR.out ho2 (fun k hk e => by rcases e with e | e <;> omega)⟩
      have HGk := Lib.hid hgk.1
      have HNk := Lib.hid hgk.2
      clear hgk HBj HOj HTj HBk HOk HOq HQ91 HTb91 HZb91 HNR HRA
      have c0 : wk.cell? ⟨T, 0, none⟩ = some (.pointer (some ⟨Q, 0, none⟩)) := by rw [HGk.out.tk.tb.cell]; rfl
      have c1 : wk.cell? ⟨T, 1, none⟩ = some (.int .i64 0) := by rw [HGk.out.tk.tb.cell]; rfl
      cases hgt : gText 16384 q1 with
      | error ct =>
        have hct := gText_err hgt
        have HRaw := Lib.hid (refRaw_bad 16384 (by decide) (HGk.out.tk.rd q1 rfl) hgt)
        have HGt := Lib.hid hgt
        clear hgt
        go_wp2_with fail
        refine HRaw.out.mono ?_
        rintro e wl ⟨vx, rfl, hrx, hoq⟩
        obtain ⟨xa, xc, rfl⟩ : ∃ a c, vx = .slice a 0 c := hrx.bys.shape
        clear c0 c1 HRaw hrx
        have HQ92 := Lib.hid hoq
        have htb92 := HGk.out.tk.tb.onlyR hoq (by have := HGk.out.tk.qt; omega)
        have HTb92 := Lib.hid htb92
        have HZb92 := Lib.hid (HGk.out.bz.onlyR hoq (by have h1 := HGk.out.tk.qt; have h2 := HGk.out.tz; omega))
        clear htb92
        have HOq := Lib.hid hoq
        clear hoq
        go_upto_region 47 with (first
          | (refine wpList_store_fld rfl 25 (.tmp 192) (.tmp 190) rfl Z 11 (.slice xa 0 xc) rfl rfl 27 #[.int .i64 5, .int .u64 (nf : Int), .int .u64 (no : Int), .int .u64 (nt : Int), .int .u64 (ni : Int), .int .u64 (nl : Int), .int .u64 0, .int .u64 (ns : Int), .bool false, .slice none 0 0, .slice va mm.length vc, .slice none 0 0] #[.int .i64 5, .int .u64 (nf : Int), .int .u64 (no : Int), .int .u64 (nt : Int), .int .u64 (ni : Int), .int .u64 (nl : Int), .int .u64 0, .int .u64 (ns : Int), .bool false, .slice none 0 0, .slice va mm.length vc, .slice xa 0 xc] HZb92.out (by simp) rfl (by kernel_rfl) rfl ?_; intro wm hb ho; (have HBj := Lib.hid hb); (have HOj := Lib.hid ho); (have HTj := Lib.hid (HTb92.out.onlyS ho (by omega))); clear hb ho)
          | (refine wpList_store_fld rfl 30 (.tmp 194) (.tmp 191) rfl T 1 (.int .i64 (ct : Int)) rfl rfl 67 #[.pointer (some ⟨Q, 0, none⟩), .int .i64 0] #[.pointer (some ⟨Q, 0, none⟩), .int .i64 (ct : Int)] HTj.out (by simp) rfl (by kernel_rfl) rfl ?_; intro wn hb ho; (have HBk := Lib.hid hb); (have HOk := Lib.hid ho); clear hb ho))
        have hgn : GAt w R Q T Z v c l (.error ct) #[.int .i64 5, .int .u64 (nf : Int), .int .u64 (no : Int), .int .u64 (nt : Int), .int .u64 (ni : Int), .int .u64 (nl : Int), .int .u64 0, .int .u64 (ns : Int), .bool false, .slice none 0 0, .slice va mm.length vc, .slice xa 0 xc] wn := by
          have h0 := HGk.out
          have h1 := h0.rl
          have hos : OnlyS (fun k => k = Q ∨ k = T ∨ k = Z) wk wn := ((OnlyS.of_only HOq.out (.inl rfl)).trans (HOj.out.mono fun _ _ e => .inr (.inr e))).trans (HOk.out.mono fun _ _ e => .inr (.inl e))
          exact ⟨⟨HBk.out, (fun r e => by cases e), (fun d e => by cases e; omega), Nat.lt_of_lt_of_le h0.tk.ql hos.size, h0.tk.gq, h0.tk.qt⟩, h0.br.onlyS hos (by omega), HBj.out.onlyS HOk.out (by omega), h0.bl.trans (hos.below (fun k hk e => by have := h0.tk.gq; rcases e with e | e | e <;> omega) h0.bl.size), h0.rl, h0.rq, h0.tz⟩
        have HGn := Lib.hid hgn
        clear hgn HBj HOj HTj HBk HOk HOq HQ92 HTb92 HZb92
        have c0 : wn.cell? ⟨T, 0, none⟩ = some (.pointer (some ⟨Q, 0, none⟩)) := by rw [HGn.out.tk.tb.cell]; rfl
        have c1 : wn.cell? ⟨T, 1, none⟩ = some (.int .i64 (ct : Int)) := by rw [HGn.out.tk.tb.cell]; rfl
        have hz : ((ct : Int) == 0) = false := by simp; omega
        have hz2 : ((ct : Int) != 0) = true := by simp; omega
        have HGet := Lib.hid (show getM l = (Mg.zero, ct) from MsgMath.getM_fault (show gMsg l = tag (⟨5, nf, no, nt, ni, nl, 0, ns, false, [], mm, []⟩ : Mg) (.error ct) from (MsgMath.msg_head HByte.out (by omega) HT34.out HT36.out HT38.out).trans (MsgMath.body_5 HT40.out HT42.out HT44.out (show thru gMem (.ok r0 : St) = tag mm (.ok q1) from HGm.out) (show thru (gText 16384) (.ok q1 : St) = tag [] (.error ct) from HGt.out))))
        go_upto_region 50 with fail
        clear c0 c1
        have hgr := HGn.out
        have h1 := hgr.rl
        have h2 := hgr.rq
        have h3 := hgr.tk.qt
        refine region_by [(213, .is (.agg zeroM)), (214, .is (.pointer (some ⟨T, 0, none⟩))), (215, .is (.pointer (some ⟨T, 0, none⟩))), (216, .is (.pointer (some ⟨T, 1, none⟩))), (217, .is (.int .i64 (ct : Int))), (3, .is (.int .i64 (ct : Int)))] [2, 3] (fun W => OnlyS (fun k => k = R) wn W ∧ Blk W R 27 zeroM) (by kernel_rfl) (by kernel_rfl) (by kernel_rfl) (by kernel_rfl) (by kernel_rfl) ⟨(OnlyS.refl _ _).drew, hgr.br.keep ((Below.refl _ _).drew)⟩ ?_ ?_
        · refine ⟨?c0, ?c1, ?c2, ?c3, ?c4, ?c5, ?c6, trivial⟩
          case c0 => exact ask_exec (guard_none rfl) (.agg zeroM) rfl rfl (by intro k hk; cases hk; rfl) (fun W hW => by kernel_rfl)
          case c1 => exact ask_copy (guard_none rfl) (.tmp 4) (.inl rfl) (by intro k hk; cases hk; rfl)
          case c2 => exact ask_exec (guard_none rfl) (.pointer (some ⟨T, 0, none⟩)) rfl rfl (by intro k hk; cases hk; rfl) (fun W hW => by kernel_rfl)
          case c3 => exact ask_field (guard_none rfl) _ (.tmp 215) 1 (.pointer (some ⟨T, 0, none⟩)) (.pointer (some ⟨T, 1, none⟩)) rfl rfl (by intro k hk; cases hk; rfl) (fun W => by kernel_rfl)
          case c4 => exact ask_load (guard_none rfl) _ (.tmp 216) (.pointer (some ⟨T, 1, none⟩)) (.int .i64 (ct : Int)) rfl rfl (by intro k hk; cases hk; rfl) (fun W hW => load_err W _ _ (by rw [(hgr.tk.tb.onlyS hW.1 (by omega)).cell]; rfl))
          case c5 => exact ask_store_same (guard_none rfl) 27 (.tmp 2) (.tmp 213) R zeroM rfl rfl rfl rfl (facts_is (by simp [isFact])) (fun W hW => ⟨hW.2.stores 27 _ (by kernel_rfl) rfl (by kernel_rfl), hW.1.trans (setRow_onlyS W R zeroM), hW.2.row _⟩)
          case c6 => exact ask_copy (guard_none rfl) (.tmp 217) (.inr rfl) (by intro k hk; cases hk; rfl)
        · intro a' W hW hd' hs' hf'
          have t2 : a'.tmps.getD 2 undef = .pointer (some ⟨R, 0, none⟩) := hf' 2 rfl
          have t3 : a'.tmps.getD 3 undef = .int .i64 (ct : Int) := hf' 3 rfl
          obtain ⟨us', hus, ha'⟩ := act_open 219 a' hs' hd'
          rw [← hus] at t2 t3
          have el : ((List.range 219).map us').toArray = #[us' 0, us' 1, .pointer (some ⟨R, 0, none⟩), .int .i64 (ct : Int), us' 4, us' 5, us' 6, us' 7, us' 8, us' 9, us' 10, us' 11, us' 12, us' 13, us' 14, us' 15, us' 16, us' 17, us' 18, us' 19, us' 20, us' 21, us' 22, us' 23, us' 24, us' 25, us' 26, us' 27, us' 28, us' 29, us' 30, us' 31, us' 32, us' 33, us' 34, us' 35, us' 36, us' 37, us' 38, us' 39, us' 40, us' 41, us' 42, us' 43, us' 44, us' 45, us' 46, us' 47, us' 48, us' 49, us' 50, us' 51, us' 52, us' 53, us' 54, us' 55, us' 56, us' 57, us' 58, us' 59, us' 60, us' 61, us' 62, us' 63, us' 64, us' 65, us' 66, us' 67, us' 68, us' 69, us' 70, us' 71, us' 72, us' 73, us' 74, us' 75, us' 76, us' 77, us' 78, us' 79, us' 80, us' 81, us' 82, us' 83, us' 84, us' 85, us' 86, us' 87, us' 88, us' 89, us' 90, us' 91, us' 92, us' 93, us' 94, us' 95, us' 96, us' 97, us' 98, us' 99, us' 100, us' 101, us' 102, us' 103, us' 104, us' 105, us' 106, us' 107, us' 108, us' 109, us' 110, us' 111, us' 112, us' 113, us' 114, us' 115, us' 116, us' 117, us' 118, us' 119, us' 120, us' 121, us' 122, us' 123, us' 124, us' 125, us' 126, us' 127, us' 128, us' 129, us' 130, us' 131, us' 132, us' 133, us' 134, us' 135, us' 136, us' 137, us' 138, us' 139, us' 140, us' 141, us' 142, us' 143, us' 144, us' 145, us' 146, us' 147, us' 148, us' 149, us' 150, us' 151, us' 152, us' 153, us' 154, us' 155, us' 156, us' 157, us' 158, us' 159, us' 160, us' 161, us' 162, us' 163, us' 164, us' 165, us' 166, us' 167, us' 168, us' 169, us' 170, us' 171, us' 172, us' 173, us' 174, us' 175, us' 176, us' 177, us' 178, us' 179, us' 180, us' 181, us' 182, us' 183, us' 184, us' 185, us' 186, us' 187, us' 188, us' 189, us' 190, us' 191, us' 192, us' 193, us' 194, us' 195, us' 196, us' 197, us' 198, us' 199, us' 200, us' 201, us' 202, us' 203, us' 204, us' 205, us' 206, us' 207, us' 208, us' 209, us' 210, us' 211, us' 212, us' 213, us' 214, us' 215, us' 216, us' 217, us' 218] := by
            show #[us' 0, us' 1, us' 2, us' 3, us' 4, us' 5, us' 6, us' 7, us' 8, us' 9, us' 10, us' 11, us' 12, us' 13, us' 14, us' 15, us' 16, us' 17, us' 18, us' 19, us' 20, us' 21, us' 22, us' 23, us' 24, us' 25, us' 26, us' 27, us' 28, us' 29, us' 30, us' 31, us' 32, us' 33, us' 34, us' 35, us' 36, us' 37, us' 38, us' 39, us' 40, us' 41, us' 42, us' 43, us' 44, us' 45, us' 46, us' 47, us' 48, us' 49, us' 50, us' 51, us' 52, us' 53, us' 54, us' 55, us' 56, us' 57, us' 58, us' 59, us' 60, us' 61, us' 62, us' 63, us' 64, us' 65, us' 66, us' 67, us' 68, us' 69, us' 70, us' 71, us' 72, us' 73, us' 74, us' 75, us' 76, us' 77, us' 78, us' 79, us' 80, us' 81, us' 82, us' 83, us' 84, us' 85, us' 86, us' 87, us' 88, us' 89, us' 90, us' 91, us' 92, us' 93, us' 94, us' 95, us' 96, us' 97, us' 98, us' 99, us' 100, us' 101, us' 102, us' 103, us' 104, us' 105, us' 106, us' 107, us' 108, us' 109, us' 110, us' 111, us' 112, us' 113, us' 114, us' 115, us' 116, us' 117, us' 118, us' 119, us' 120, us' 121, us' 122, us' 123, us' 124, us' 125, us' 126, us' 127, us' 128, us' 129, us' 130, us' 131, us' 132, us' 133, us' 134, us' 135, us' 136, us' 137, us' 138, us' 139, us' 140, us' 141, us' 142, us' 143, us' 144, us' 145, us' 146, us' 147, us' 148, us' 149, us' 150, us' 151, us' 152, us' 153, us' 154, us' 155, us' 156, us' 157, us' 158, us' 159, us' 160, us' 161, us' 162, us' 163, us' 164, us' 165, us' 166, us' 167, us' 168, us' 169, us' 170, us' 171, us' 172, us' 173, us' 174, us' 175, us' 176, us' 177, us' 178, us' 179, us' 180, us' 181, us' 182, us' 183, us' 184, us' 185, us' 186, us' 187, us' 188, us' 189, us' 190, us' 191, us' 192, us' 193, us' 194, us' 195, us' 196, us' 197, us' 198, us' 199, us' 200, us' 201, us' 202, us' 203, us' 204, us' 205, us' 206, us' 207, us' 208, us' 209, us' 210, us' 211, us' 212, us' 213, us' 214, us' 215, us' 216, us' 217, us' 218] = _
            rw [t2, t3]
          rw [el] at ha'
          subst ha'
          clear hus t2 t3 el hf' hs' hd'
          have HW := Lib.hid hW
          clear hW
          go_wp2
          exact bodyPost_ret (v := .tuple #[.agg zeroM, .int .i64 (ct : Int)]) (ret_msg rfl _ _ R zeroM _ rfl rfl rfl HW.out.2) rfl (mGetEnd_err HGet.out (hgr.bl.trans (HW.out.1.below (fun k hk e => by omega) hgr.bl.size)))
      | ok pt =>
        obtain ⟨gx, q2⟩ := pt
        have HRaw := Lib.hid (refRaw_ok 16384 (by decide) (HGk.out.tk.rd q1 rfl) hgt)
        have HGt := Lib.hid hgt
        clear hgt
        have hzl2 := HGk.out.bz.lt
        go_wp2_with fail
        refine HRaw.out.mono ?_
        rintro e wl ⟨vx, rfl, hrx, hra, hoq⟩
        obtain ⟨xa, xc, rfl⟩ : ∃ a c, vx = .slice a gx.length c := hrx.bys.shape
        have HRx := Lib.hid (row_low hrx (show Z + 1 ≤ wk.heap.size by omega))
        have HRA := Lib.hid hra
        clear c0 c1 HRaw hrx hra
        have HQ93 := Lib.hid hoq
        have htb93 := HGk.out.tk.tb.onlyR hoq (by have := HGk.out.tk.qt; omega)
        have HTb93 := Lib.hid htb93
        have HZb93 := Lib.hid (HGk.out.bz.onlyR hoq (by have h1 := HGk.out.tk.qt; have h2 := HGk.out.tz; omega))
        clear htb93
        have HOq := Lib.hid hoq
        clear hoq
        go_upto_region 47 with (first
          | (refine wpList_store_fld rfl 25 (.tmp 192) (.tmp 190) rfl Z 11 (.slice xa gx.length xc) rfl rfl 27 #[.int .i64 5, .int .u64 (nf : Int), .int .u64 (no : Int), .int .u64 (nt : Int), .int .u64 (ni : Int), .int .u64 (nl : Int), .int .u64 0, .int .u64 (ns : Int), .bool false, .slice none 0 0, .slice va mm.length vc, .slice none 0 0] #[.int .i64 5, .int .u64 (nf : Int), .int .u64 (no : Int), .int .u64 (nt : Int), .int .u64 (ni : Int), .int .u64 (nl : Int), .int .u64 0, .int .u64 (ns : Int), .bool false, .slice none 0 0, .slice va mm.length vc, .slice xa gx.length xc] HZb93.out (by simp) rfl (by kernel_rfl) rfl ?_; intro wm hb ho; (have HBj := Lib.hid hb); (have HOj := Lib.hid ho); (have HTj := Lib.hid (HTb93.out.onlyS ho (by omega))); clear hb ho)
          | (refine wpList_store_fld rfl 30 (.tmp 194) (.tmp 191) rfl T 1 (.int .i64 0) rfl rfl 67 #[.pointer (some ⟨Q, 0, none⟩), .int .i64 0] #[.pointer (some ⟨Q, 0, none⟩), .int .i64 0] HTj.out (by simp) rfl (by kernel_rfl) rfl ?_; intro wn hb ho; (have HBk := Lib.hid hb); (have HOk := Lib.hid ho); clear hb ho))
        have hgn : GAt w R Q T Z v c l (.ok q2) #[.int .i64 5, .int .u64 (nf : Int), .int .u64 (no : Int), .int .u64 (nt : Int), .int .u64 (ni : Int), .int .u64 (nl : Int), .int .u64 0, .int .u64 (ns : Int), .bool false, .slice none 0 0, .slice va mm.length vc, .slice xa gx.length xc] wn ∧ NRow wn (Z + 1) (.slice va mm.length vc) mm ∧ Row wn (Z + 1) (.slice xa gx.length xc) gx := by
          have h0 := HGk.out
          have h1 := h0.rl
          have ho2 : OnlyS (fun k => k = T ∨ k = Z) wl wn := (HOj.out.mono fun _ _ e => .inr e).trans (HOk.out.mono fun _ _ e => .inl e)
          have hos : OnlyS (fun k => k = Q ∨ k = T ∨ k = Z) wk wn := (OnlyS.of_only HOq.out (.inl rfl)).trans (ho2.mono fun _ _ e => .inr e)
          exact ⟨⟨⟨HBk.out, (fun r e => by cases e; exact HRA.out.only ho2 (fun k hk e => by have := h0.tk.gq; rcases e with e | e <;> omega) (by omega)), (fun d e => by cases e), Nat.lt_of_lt_of_le h0.tk.ql hos.size, h0.tk.gq, h0.tk.qt⟩, h0.br.onlyS hos (by omega), HBj.out.onlyS HOk.out (by omega), h0.bl.trans (hos.below (fun k hk e => by have := h0.tk.gq; rcases e with e | e | e <;> omega) h0.bl.size), h0.rl, h0.rq, h0.tz⟩, nrow_far HNk.out hos (fun k hk e => by rcases e with e | e | e <;> omega), row_far HRx.out ho2 (fun k hk e => by rcases e with e | e <;> omega)⟩
        have HGn := Lib.hid hgn.1
        have HNn := Lib.hid hgn.2.1
        have HRn := Lib.hid hgn.2.2
        clear hgn HBj HOj HTj HBk HOk HOq HQ93 HTb93 HZb93 HRA HRx HNk
        obtain ⟨sq, hsq⟩ : ∃ s : St, s = .ok q2 := ⟨_, rfl⟩
        have HSq := Lib.hid hsq
        rw [← hsq] at HGn
        clear hsq
        have HMsg := Lib.hid (show gMsg l = tag (⟨5, nf, no, nt, ni, nl, 0, ns, false, [], mm, gx⟩ : Mg) sq from (MsgMath.msg_head HByte.out (by omega) HT34.out HT36.out HT38.out).trans (MsgMath.body_5 HT40.out HT42.out HT44.out (show thru gMem (.ok r0 : St) = tag mm (.ok q1) from HGm.out) (by rw [HSq.out]; exact HGt.out)))
        cases sq with
        | error cc =>
          have hcc := HGn.out.tk.er cc rfl
          have c0 : wn.cell? ⟨T, 0, none⟩ = some (.pointer (some ⟨Q, 0, none⟩)) := by rw [HGn.out.tk.tb.cell]; rfl
          have c1 : wn.cell? ⟨T, 1, none⟩ = some (.int .i64 (cc : Int)) := by rw [HGn.out.tk.tb.cell]; rfl
          have hz : ((cc : Int) == 0) = false := by simp; omega
          have hz2 : ((cc : Int) != 0) = true := by simp; omega
          have HGet := Lib.hid (show getM l = (Mg.zero, cc) from MsgMath.getM_fault HMsg.out)
          go_upto_region 50 with fail
          clear c0 c1
          have hgr := HGn.out
          have h1 := hgr.rl
          have h2 := hgr.rq
          have h3 := hgr.tk.qt
          refine region_by [(213, .is (.agg zeroM)), (214, .is (.pointer (some ⟨T, 0, none⟩))), (215, .is (.pointer (some ⟨T, 0, none⟩))), (216, .is (.pointer (some ⟨T, 1, none⟩))), (217, .is (.int .i64 (cc : Int))), (3, .is (.int .i64 (cc : Int)))] [2, 3] (fun W => OnlyS (fun k => k = R) wn W ∧ Blk W R 27 zeroM) (by kernel_rfl) (by kernel_rfl) (by kernel_rfl) (by kernel_rfl) (by kernel_rfl) ⟨(OnlyS.refl _ _).drew, hgr.br.keep ((Below.refl _ _).drew)⟩ ?_ ?_
          · refine ⟨?c0, ?c1, ?c2, ?c3, ?c4, ?c5, ?c6, trivial⟩
            case c0 => exact ask_exec (guard_none rfl) (.agg zeroM) rfl rfl (by intro k hk; cases hk; rfl) (fun W hW => by kernel_rfl)
            case c1 => exact ask_copy (guard_none rfl) (.tmp 4) (.inl rfl) (by intro k hk; cases hk; rfl)
            case c2 => exact ask_exec (guard_none rfl) (.pointer (some ⟨T, 0, none⟩)) rfl rfl (by intro k hk; cases hk; rfl) (fun W hW => by kernel_rfl)
            case c3 => exact ask_field (guard_none rfl) _ (.tmp 215) 1 (.pointer (some ⟨T, 0, none⟩)) (.pointer (some ⟨T, 1, none⟩)) rfl rfl (by intro k hk; cases hk; rfl) (fun W => by kernel_rfl)
            case c4 => exact ask_load (guard_none rfl) _ (.tmp 216) (.pointer (some ⟨T, 1, none⟩)) (.int .i64 (cc : Int)) rfl rfl (by intro k hk; cases hk; rfl) (fun W hW => load_err W _ _ (by rw [(hgr.tk.tb.onlyS hW.1 (by omega)).cell]; rfl))
            case c5 => exact ask_store_same (guard_none rfl) 27 (.tmp 2) (.tmp 213) R zeroM rfl rfl rfl rfl (facts_is (by simp [isFact])) (fun W hW => ⟨hW.2.stores 27 _ (by kernel_rfl) rfl (by kernel_rfl), hW.1.trans (setRow_onlyS W R zeroM), hW.2.row _⟩)
            case c6 => exact ask_copy (guard_none rfl) (.tmp 217) (.inr rfl) (by intro k hk; cases hk; rfl)
          · intro a' W hW hd' hs' hf'
            have t2 : a'.tmps.getD 2 undef = .pointer (some ⟨R, 0, none⟩) := hf' 2 rfl
            have t3 : a'.tmps.getD 3 undef = .int .i64 (cc : Int) := hf' 3 rfl
            obtain ⟨us', hus, ha'⟩ := act_open 219 a' hs' hd'
            rw [← hus] at t2 t3
            have el : ((List.range 219).map us').toArray = #[us' 0, us' 1, .pointer (some ⟨R, 0, none⟩), .int .i64 (cc : Int), us' 4, us' 5, us' 6, us' 7, us' 8, us' 9, us' 10, us' 11, us' 12, us' 13, us' 14, us' 15, us' 16, us' 17, us' 18, us' 19, us' 20, us' 21, us' 22, us' 23, us' 24, us' 25, us' 26, us' 27, us' 28, us' 29, us' 30, us' 31, us' 32, us' 33, us' 34, us' 35, us' 36, us' 37, us' 38, us' 39, us' 40, us' 41, us' 42, us' 43, us' 44, us' 45, us' 46, us' 47, us' 48, us' 49, us' 50, us' 51, us' 52, us' 53, us' 54, us' 55, us' 56, us' 57, us' 58, us' 59, us' 60, us' 61, us' 62, us' 63, us' 64, us' 65, us' 66, us' 67, us' 68, us' 69, us' 70, us' 71, us' 72, us' 73, us' 74, us' 75, us' 76, us' 77, us' 78, us' 79, us' 80, us' 81, us' 82, us' 83, us' 84, us' 85, us' 86, us' 87, us' 88, us' 89, us' 90, us' 91, us' 92, us' 93, us' 94, us' 95, us' 96, us' 97, us' 98, us' 99, us' 100, us' 101, us' 102, us' 103, us' 104, us' 105, us' 106, us' 107, us' 108, us' 109, us' 110, us' 111, us' 112, us' 113, us' 114, us' 115, us' 116, us' 117, us' 118, us' 119, us' 120, us' 121, us' 122, us' 123, us' 124, us' 125, us' 126, us' 127, us' 128, us' 129, us' 130, us' 131, us' 132, us' 133, us' 134, us' 135, us' 136, us' 137, us' 138, us' 139, us' 140, us' 141, us' 142, us' 143, us' 144, us' 145, us' 146, us' 147, us' 148, us' 149, us' 150, us' 151, us' 152, us' 153, us' 154, us' 155, us' 156, us' 157, us' 158, us' 159, us' 160, us' 161, us' 162, us' 163, us' 164, us' 165, us' 166, us' 167, us' 168, us' 169, us' 170, us' 171, us' 172, us' 173, us' 174, us' 175, us' 176, us' 177, us' 178, us' 179, us' 180, us' 181, us' 182, us' 183, us' 184, us' 185, us' 186, us' 187, us' 188, us' 189, us' 190, us' 191, us' 192, us' 193, us' 194, us' 195, us' 196, us' 197, us' 198, us' 199, us' 200, us' 201, us' 202, us' 203, us' 204, us' 205, us' 206, us' 207, us' 208, us' 209, us' 210, us' 211, us' 212, us' 213, us' 214, us' 215, us' 216, us' 217, us' 218] := by
              show #[us' 0, us' 1, us' 2, us' 3, us' 4, us' 5, us' 6, us' 7, us' 8, us' 9, us' 10, us' 11, us' 12, us' 13, us' 14, us' 15, us' 16, us' 17, us' 18, us' 19, us' 20, us' 21, us' 22, us' 23, us' 24, us' 25, us' 26, us' 27, us' 28, us' 29, us' 30, us' 31, us' 32, us' 33, us' 34, us' 35, us' 36, us' 37, us' 38, us' 39, us' 40, us' 41, us' 42, us' 43, us' 44, us' 45, us' 46, us' 47, us' 48, us' 49, us' 50, us' 51, us' 52, us' 53, us' 54, us' 55, us' 56, us' 57, us' 58, us' 59, us' 60, us' 61, us' 62, us' 63, us' 64, us' 65, us' 66, us' 67, us' 68, us' 69, us' 70, us' 71, us' 72, us' 73, us' 74, us' 75, us' 76, us' 77, us' 78, us' 79, us' 80, us' 81, us' 82, us' 83, us' 84, us' 85, us' 86, us' 87, us' 88, us' 89, us' 90, us' 91, us' 92, us' 93, us' 94, us' 95, us' 96, us' 97, us' 98, us' 99, us' 100, us' 101, us' 102, us' 103, us' 104, us' 105, us' 106, us' 107, us' 108, us' 109, us' 110, us' 111, us' 112, us' 113, us' 114, us' 115, us' 116, us' 117, us' 118, us' 119, us' 120, us' 121, us' 122, us' 123, us' 124, us' 125, us' 126, us' 127, us' 128, us' 129, us' 130, us' 131, us' 132, us' 133, us' 134, us' 135, us' 136, us' 137, us' 138, us' 139, us' 140, us' 141, us' 142, us' 143, us' 144, us' 145, us' 146, us' 147, us' 148, us' 149, us' 150, us' 151, us' 152, us' 153, us' 154, us' 155, us' 156, us' 157, us' 158, us' 159, us' 160, us' 161, us' 162, us' 163, us' 164, us' 165, us' 166, us' 167, us' 168, us' 169, us' 170, us' 171, us' 172, us' 173, us' 174, us' 175, us' 176, us' 177, us' 178, us' 179, us' 180, us' 181, us' 182, us' 183, us' 184, us' 185, us' 186, us' 187, us' 188, us' 189, us' 190, us' 191, us' 192, us' 193, us' 194, us' 195, us' 196, us' 197, us' 198, us' 199, us' 200, us' 201, us' 202, us' 203, us' 204, us' 205, us' 206, us' 207, us' 208, us' 209, us' 210, us' 211, us' 212, us' 213, us' 214, us' 215, us' 216, us' 217, us' 218] = _
              rw [t2, t3]
            rw [el] at ha'
            subst ha'
            clear hus t2 t3 el hf' hs' hd'
            have HW := Lib.hid hW
            clear hW
            go_wp2
            exact bodyPost_ret (v := .tuple #[.agg zeroM, .int .i64 (cc : Int)]) (ret_msg rfl _ _ R zeroM _ rfl rfl rfl HW.out.2) rfl (mGetEnd_err HGet.out (hgr.bl.trans (HW.out.1.below (fun k hk e => by omega) hgr.bl.size)))
        | ok rr =>
          have c0 : wn.cell? ⟨T, 0, none⟩ = some (.pointer (some ⟨Q, 0, none⟩)) := by rw [HGn.out.tk.tb.cell]; rfl
          have c1 : wn.cell? ⟨T, 1, none⟩ = some (.int .i64 0) := by rw [HGn.out.tk.tb.cell]; rfl
          have HEnd := Lib.hid (refreadEnd_any (HGn.out.tk.rd rr rfl))
          have HRead := Lib.hid (msg_read HMsg.out)
          by_cases hrr : rr = []
          · rw [if_pos hrr] at HEnd
            have HGet := Lib.hid (show getM l = ((⟨5, nf, no, nt, ni, nl, 0, ns, false, [], mm, gx⟩ : Mg), 0) by rw [MsgMath.getM_done HMsg.out, if_pos hrr])
            clear hrr
            go_wp2_with fail
            refine HEnd.out.mono ?_
            rintro e we ⟨rfl, hoe⟩
            have HOe := Lib.hid hoe
            have HTe := Lib.hid (HGn.out.tk.tb.onlyR hoe (by have := HGn.out.tk.qt; omega))
            have HZe := Lib.hid (HGn.out.bz.onlyR hoe (by have h1 := HGn.out.tk.qt; have h2 := HGn.out.tz; omega))
            have HRe := Lib.hid (HGn.out.br.onlyR hoe (by have := HGn.out.rq; omega))
            clear hoe c0 c1 HEnd
            have hne := HGn.out.tk.qt
            have hne2 := HGn.out.tz
            have hne3 := HGn.out.rq
            go_wp2_with (first
              | (refine wpList_store_fld rfl 30 (.tmp 207) (.tmp 205) rfl T 1 (.int .i64 ((0 : Nat) : Int)) rfl rfl 67 _ #[.pointer (some ⟨Q, 0, none⟩), .int .i64 0] HTe.out (by simp) rfl (by kernel_rfl) rfl ?_; intro wf hb ho; (have c0 : wf.cell? ⟨T, 0, none⟩ = some (.pointer (some ⟨Q, 0, none⟩)) := by rw [hb.cell]; rfl); (have c1 : wf.cell? ⟨T, 1, none⟩ = some (.int .i64 0) := by rw [hb.cell]; rfl); (have HOf := Lib.hid ho); (have HZf := Lib.hid (HZe.out.onlyS ho (by omega))); (have HRf := Lib.hid (HRe.out.onlyS ho (by omega))); clear hb ho)
              | (refine wpList_load_by rfl 27 (.tmp 7) rfl _ _ rfl (HZf.out.loads 27 _ Try.underlying27 rfl rfl) ?_)
              | (refine wpList_store_all rfl 27 (.tmp 2) (.tmp 218) rfl R #[.int .i64 5, .int .u64 (nf : Int), .int .u64 (no : Int), .int .u64 (nt : Int), .int .u64 (ni : Int), .int .u64 (nl : Int), .int .u64 0, .int .u64 (ns : Int), .bool false, .slice none 0 0, .slice va mm.length vc, .slice xa gx.length xc] rfl rfl 27 zeroM HRf.out (by kernel_rfl) rfl (by simp [Value.oneCell']) ?_; intro wh hb ho; (have HBh := Lib.hid hb); (have HOh := Lib.hid ho); clear hb ho))
            have hos : OnlyS (fun k => k = Q ∨ k = T ∨ k = R) wn wh := ((OnlyS.of_only HOe.out (.inl rfl)).trans (HOf.out.mono fun _ _ e => .inr (.inl e))).trans (HOh.out.mono fun _ _ e => .inr (.inr e))
            have hbl : Below w.heap.size w wh := HGn.out.bl.trans (hos.below (fun k hk e => by have h1 := HGn.out.rl; rcases e with e | e | e <;> omega) HGn.out.bl.size)
            refine bodyPost_ret (v := .tuple #[.agg #[.int .i64 5, .int .u64 (nf : Int), .int .u64 (no : Int), .int .u64 (nt : Int), .int .u64 (ni : Int), .int .u64 (nl : Int), .int .u64 0, .int .u64 (ns : Int), .bool false, .slice none 0 0, .slice va mm.length vc, .slice xa gx.length xc], .int .i64 0]) (ret_msg rfl _ _ R #[.int .i64 5, .int .u64 (nf : Int), .int .u64 (no : Int), .int .u64 (nt : Int), .int .u64 (ni : Int), .int .u64 (nl : Int), .int .u64 0, .int .u64 (ns : Int), .bool false, .slice none 0 0, .slice va mm.length vc, .slice xa gx.length xc] _ rfl rfl rfl HBh.out) rfl ?_
            unfold MGetEnd
            rw [HGet.out]
            exact ⟨.slice none 0 0, _, _, [], rfl, ⟨HRead.out.1, ERow.nil _ _, fun u hu => absurd hu List.not_mem_nil, rfl, nrow_low (nrow_far HNn.out hos (fun k hk e => by rcases e with e | e | e <;> omega)) (by have := HGn.out.rl; omega), row_low (row_far HRn.out hos (fun k hk e => by rcases e with e | e | e <;> omega)) (by have := HGn.out.rl; omega), by simp, HRead.out.2.2.1, HRead.out.2.2.2⟩, hbl⟩
          · rw [if_neg hrr] at HEnd
            have HGet := Lib.hid (show getM l = (Mg.zero, 5) by rw [MsgMath.getM_done HMsg.out, if_neg hrr])
            clear hrr
            go_wp2_with fail
            refine HEnd.out.mono ?_
            rintro e we ⟨rfl, hoe⟩
            have HOe := Lib.hid hoe
            have HTe := Lib.hid (HGn.out.tk.tb.onlyR hoe (by have := HGn.out.tk.qt; omega))
            have HRe := Lib.hid (HGn.out.br.onlyR hoe (by have := HGn.out.rq; omega))
            clear hoe c0 c1 HEnd
            have hne := HGn.out.tk.qt
            have hne2 := HGn.out.tz
            have hne3 := HGn.out.rq
            go_upto_region 50 with (refine wpList_store_fld rfl 30 (.tmp 207) (.tmp 205) rfl T 1 (.int .i64 ((5 : Nat) : Int)) rfl rfl 67 _ #[.pointer (some ⟨Q, 0, none⟩), .int .i64 5] HTe.out (by simp) rfl (by kernel_rfl) rfl ?_; intro wf hb ho; (have c0 : wf.cell? ⟨T, 0, none⟩ = some (.pointer (some ⟨Q, 0, none⟩)) := by rw [hb.cell]; rfl); (have c1 : wf.cell? ⟨T, 1, none⟩ = some (.int .i64 5) := by rw [hb.cell]; rfl); (have HOf := Lib.hid ho); (have HTf := Lib.hid hb); (have HRf := Lib.hid (HRe.out.onlyS ho (by omega))); clear hb ho)
            clear c0 c1
            have hos : OnlyS (fun k => k = Q ∨ k = T) wn wf := (OnlyS.of_only HOe.out (.inl rfl)).trans (HOf.out.mono fun _ _ e => .inr e)
            have hbl : Below w.heap.size w wf := HGn.out.bl.trans (hos.below (fun k hk e => by have h1 := HGn.out.rl; rcases e with e | e <;> omega) HGn.out.bl.size)
            have HBl := Lib.hid hbl
            have h1 := HGn.out.rl
            clear hos hbl
            refine region_by [(213, .is (.agg zeroM)), (214, .is (.pointer (some ⟨T, 0, none⟩))), (215, .is (.pointer (some ⟨T, 0, none⟩))), (216, .is (.pointer (some ⟨T, 1, none⟩))), (217, .is (.int .i64 5)), (3, .is (.int .i64 5))] [2, 3] (fun W => OnlyS (fun k => k = R) wf W ∧ Blk W R 27 zeroM) (by kernel_rfl) (by kernel_rfl) (by kernel_rfl) (by kernel_rfl) (by kernel_rfl) ⟨(OnlyS.refl _ _).drew, HRf.out.keep ((Below.refl _ _).drew)⟩ ?_ ?_
            · refine ⟨?c0, ?c1, ?c2, ?c3, ?c4, ?c5, ?c6, trivial⟩
              case c0 => exact ask_exec (guard_none rfl) (.agg zeroM) rfl rfl (by intro k hk; cases hk; rfl) (fun W hW => by kernel_rfl)
              case c1 => exact ask_copy (guard_none rfl) (.tmp 4) (.inl rfl) (by intro k hk; cases hk; rfl)
              case c2 => exact ask_exec (guard_none rfl) (.pointer (some ⟨T, 0, none⟩)) rfl rfl (by intro k hk; cases hk; rfl) (fun W hW => by kernel_rfl)
              case c3 => exact ask_field (guard_none rfl) _ (.tmp 215) 1 (.pointer (some ⟨T, 0, none⟩)) (.pointer (some ⟨T, 1, none⟩)) rfl rfl (by intro k hk; cases hk; rfl) (fun W => by kernel_rfl)
              case c4 => exact ask_load (guard_none rfl) _ (.tmp 216) (.pointer (some ⟨T, 1, none⟩)) (.int .i64 5) rfl rfl (by intro k hk; cases hk; rfl) (fun W hW => load_err W _ _ (by rw [(HTf.out.onlyS hW.1 (by omega)).cell]; rfl))
              case c5 => exact ask_store_same (guard_none rfl) 27 (.tmp 2) (.tmp 213) R zeroM rfl rfl rfl rfl (facts_is (by simp [isFact])) (fun W hW => ⟨hW.2.stores 27 _ (by kernel_rfl) rfl (by kernel_rfl), hW.1.trans (setRow_onlyS W R zeroM), hW.2.row _⟩)
              case c6 => exact ask_copy (guard_none rfl) (.tmp 217) (.inr rfl) (by intro k hk; cases hk; rfl)
            · intro a' W hW hd' hs' hf'
              have t2 : a'.tmps.getD 2 undef = .pointer (some ⟨R, 0, none⟩) := hf' 2 rfl
              have t3 : a'.tmps.getD 3 undef = .int .i64 5 := hf' 3 rfl
              obtain ⟨us', hus, ha'⟩ := act_open 219 a' hs' hd'
              rw [← hus] at t2 t3
              have el : ((List.range 219).map us').toArray = #[us' 0, us' 1, .pointer (some ⟨R, 0, none⟩), .int .i64 5, us' 4, us' 5, us' 6, us' 7, us' 8, us' 9, us' 10, us' 11, us' 12, us' 13, us' 14, us' 15, us' 16, us' 17, us' 18, us' 19, us' 20, us' 21, us' 22, us' 23, us' 24, us' 25, us' 26, us' 27, us' 28, us' 29, us' 30, us' 31, us' 32, us' 33, us' 34, us' 35, us' 36, us' 37, us' 38, us' 39, us' 40, us' 41, us' 42, us' 43, us' 44, us' 45, us' 46, us' 47, us' 48, us' 49, us' 50, us' 51, us' 52, us' 53, us' 54, us' 55, us' 56, us' 57, us' 58, us' 59, us' 60, us' 61, us' 62, us' 63, us' 64, us' 65, us' 66, us' 67, us' 68, us' 69, us' 70, us' 71, us' 72, us' 73, us' 74, us' 75, us' 76, us' 77, us' 78, us' 79, us' 80, us' 81, us' 82, us' 83, us' 84, us' 85, us' 86, us' 87, us' 88, us' 89, us' 90, us' 91, us' 92, us' 93, us' 94, us' 95, us' 96, us' 97, us' 98, us' 99, us' 100, us' 101, us' 102, us' 103, us' 104, us' 105, us' 106, us' 107, us' 108, us' 109, us' 110, us' 111, us' 112, us' 113, us' 114, us' 115, us' 116, us' 117, us' 118, us' 119, us' 120, us' 121, us' 122, us' 123, us' 124, us' 125, us' 126, us' 127, us' 128, us' 129, us' 130, us' 131, us' 132, us' 133, us' 134, us' 135, us' 136, us' 137, us' 138, us' 139, us' 140, us' 141, us' 142, us' 143, us' 144, us' 145, us' 146, us' 147, us' 148, us' 149, us' 150, us' 151, us' 152, us' 153, us' 154, us' 155, us' 156, us' 157, us' 158, us' 159, us' 160, us' 161, us' 162, us' 163, us' 164, us' 165, us' 166, us' 167, us' 168, us' 169, us' 170, us' 171, us' 172, us' 173, us' 174, us' 175, us' 176, us' 177, us' 178, us' 179, us' 180, us' 181, us' 182, us' 183, us' 184, us' 185, us' 186, us' 187, us' 188, us' 189, us' 190, us' 191, us' 192, us' 193, us' 194, us' 195, us' 196, us' 197, us' 198, us' 199, us' 200, us' 201, us' 202, us' 203, us' 204, us' 205, us' 206, us' 207, us' 208, us' 209, us' 210, us' 211, us' 212, us' 213, us' 214, us' 215, us' 216, us' 217, us' 218] := by
                show #[us' 0, us' 1, us' 2, us' 3, us' 4, us' 5, us' 6, us' 7, us' 8, us' 9, us' 10, us' 11, us' 12, us' 13, us' 14, us' 15, us' 16, us' 17, us' 18, us' 19, us' 20, us' 21, us' 22, us' 23, us' 24, us' 25, us' 26, us' 27, us' 28, us' 29, us' 30, us' 31, us' 32, us' 33, us' 34, us' 35, us' 36, us' 37, us' 38, us' 39, us' 40, us' 41, us' 42, us' 43, us' 44, us' 45, us' 46, us' 47, us' 48, us' 49, us' 50, us' 51, us' 52, us' 53, us' 54, us' 55, us' 56, us' 57, us' 58, us' 59, us' 60, us' 61, us' 62, us' 63, us' 64, us' 65, us' 66, us' 67, us' 68, us' 69, us' 70, us' 71, us' 72, us' 73, us' 74, us' 75, us' 76, us' 77, us' 78, us' 79, us' 80, us' 81, us' 82, us' 83, us' 84, us' 85, us' 86, us' 87, us' 88, us' 89, us' 90, us' 91, us' 92, us' 93, us' 94, us' 95, us' 96, us' 97, us' 98, us' 99, us' 100, us' 101, us' 102, us' 103, us' 104, us' 105, us' 106, us' 107, us' 108, us' 109, us' 110, us' 111, us' 112, us' 113, us' 114, us' 115, us' 116, us' 117, us' 118, us' 119, us' 120, us' 121, us' 122, us' 123, us' 124, us' 125, us' 126, us' 127, us' 128, us' 129, us' 130, us' 131, us' 132, us' 133, us' 134, us' 135, us' 136, us' 137, us' 138, us' 139, us' 140, us' 141, us' 142, us' 143, us' 144, us' 145, us' 146, us' 147, us' 148, us' 149, us' 150, us' 151, us' 152, us' 153, us' 154, us' 155, us' 156, us' 157, us' 158, us' 159, us' 160, us' 161, us' 162, us' 163, us' 164, us' 165, us' 166, us' 167, us' 168, us' 169, us' 170, us' 171, us' 172, us' 173, us' 174, us' 175, us' 176, us' 177, us' 178, us' 179, us' 180, us' 181, us' 182, us' 183, us' 184, us' 185, us' 186, us' 187, us' 188, us' 189, us' 190, us' 191, us' 192, us' 193, us' 194, us' 195, us' 196, us' 197, us' 198, us' 199, us' 200, us' 201, us' 202, us' 203, us' 204, us' 205, us' 206, us' 207, us' 208, us' 209, us' 210, us' 211, us' 212, us' 213, us' 214, us' 215, us' 216, us' 217, us' 218] = _
                rw [t2, t3]
              rw [el] at ha'
              subst ha'
              clear hus t2 t3 el hf' hs' hd'
              have HW := Lib.hid hW
              clear hW
              go_wp2
              exact bodyPost_ret (v := .tuple #[.agg zeroM, .int .i64 5]) (ret_msg rfl _ _ R zeroM _ rfl rfl rfl HW.out.2) rfl (mGetEnd_err HGet.out (HBl.out.trans (HW.out.1.below (fun k hk e => by omega) HBl.out.size)))

end Go.Proofs.Ytidapdooiibfnaa

