/- gauge's Get and the reference's: what gauge bytes are. -/
import Derived.Test.YtboongdoggggoaaGaugeKit
import Derived.Test.YtboongdoggggoaaEdgeGet
import Derived.Test.YtboongdoggggoaaBinNew
import Derived.Test.YtboongdoggggoaaRefNum
import Derived.Laws.ResultCell
import Derived.Deep.Cut
namespace Go.Proofs.Ytboongdoggggoaa
set_option maxRecDepth 20000
open Go.RowKit EdgeMath BinMath

/-- The bytes of float i, what they are, and their error. -/
def pc (r : List UInt8) (i : Nat) : List UInt8 := (r.take (8 * i + 8)).drop (8 * i)
def fB (r : List UInt8) (i : Nat) : Nat := (getR (pc r i)).1
def cB (r : List UInt8) (i : Nat) : Nat := (getR (pc r i)).2

/-- The gauge with the first i floats read. -/
def part (n : Nat) (r : List UInt8) (i : Nat) : G := ⟨n, if 0 < i then fB r 0 else 0, if 1 < i then fB r 1 else 0, if 2 < i then fB r 2 else 0, if 3 < i then fB r 3 else 0⟩

def bad (r : List UInt8) : Nat := if cB r 0 ≠ 0 then cB r 0 else if cB r 1 ≠ 0 then cB r 1 else if cB r 2 ≠ 0 then cB r 2 else cB r 3

theorem bad_at {r : List UInt8} {i : Nat} (hi : i < 4) (h : ∀ j, j < i → cB r j = 0) (hc : cB r i ≠ 0) : bad r = cB r i := by
  unfold bad
  match i, hi with
  | 0, _ => rw [if_pos hc]
  | 1, _ => rw [if_neg (by simp [h 0]), if_pos hc]
  | 2, _ => rw [if_neg (by simp [h 0]), if_neg (by simp [h 1]), if_pos hc]
  | 3, _ => rw [if_neg (by simp [h 0]), if_neg (by simp [h 1]), if_neg (by simp [h 2])]

theorem bad_none {r : List UInt8} (h : ∀ j, j < 4 → cB r j = 0) : bad r = 0 := by
  unfold bad
  rw [if_neg (by simp [h 0]), if_neg (by simp [h 1]), if_neg (by simp [h 2]), h 3 (by omega)]

def EdgeMath.G.zero : G := ⟨0, 0, 0, 0, 0⟩

/-- What bytes are: the error, and the gauge. -/
def ggetN (l : List UInt8) (n c k : Nat) : Nat × G :=
  if c ≠ 0 then (c, G.zero) else if l.length - k < 32 then (2, G.zero) else if bad (l.drop k) ≠ 0 then (bad (l.drop k), G.zero)
  else if 32 < l.length - k then (5, G.zero) else (0, part n (l.drop k) 4)
def ggetR (l : List UInt8) : Nat × G := ggetN l (numS l 0 0).1 (numS l 0 0).2.1 (numS l 0 0).2.2

theorem fB_lt (r : List UInt8) (i : Nat) : fB r i < 18446744073709551616 := getR_lt _

theorem pc_length (r : List UInt8) (i : Nat) (h : 8 * i + 8 ≤ r.length) : (pc r i).length = 8 := by
  unfold pc
  rw [List.length_drop, List.length_take]
  omega

theorem pc_drop (l : List UInt8) (k i : Nat) : (l.take (k + 8 * i + 8)).drop (k + 8 * i) = pc (l.drop k) i := by
  unfold pc
  rw [List.drop_take, List.drop_take, List.drop_drop]
  congr 1
  omega

theorem ret_gauge {fn : Func} {p u : Tmp} (h : fn.results = #[.cell p 54, .tmp u]) (tmps : Array Value) (W : World) (g : Nat) (b : G) (c : Value) (hp : tmps.getD p undef = .pointer (some ⟨g, 0, none⟩)) (hc : tmps.getD u undef = c) (hb : GBlk W g b) :
    (results fn tmps).run Try.prog W = .ok (.tuple #[.agg b.cells, c]) W := by
  have hl := run_loadVar_row (P := Try.prog) W g 54 54 b.cells (0, 0) _ hb Try.underlying54 rfl (gcells_info b)
  rw [results_cell_tmp h, hp, hc]
  simp [asAddr, Result.andThen, hl]

/-- The block of the four pointers. -/
def PBlk (W : World) (g g8 : Nat) : Prop := Blk W g 111 #[.pointer (some ⟨g8, 1, none⟩), .pointer (some ⟨g8, 2, none⟩), .pointer (some ⟨g8, 3, none⟩), .pointer (some ⟨g8, 4, none⟩)]

/-- The block of the four floats. -/
def ABlk (W : World) (g : Nat) (r : List UInt8) (i : Nat) : Prop := Blk W g 115 #[.float .f64 (if 0 < i then fB r 0 else 0), .float .f64 (if 1 < i then fB r 1 else 0), .float .f64 (if 2 < i then fB r 2 else 0), .float .f64 (if 3 < i then fB r 3 else 0)]

theorem only_gblk {w w' : World} {R g : Nat} {a : G} (h : GBlk w g a) (ho : Only R w w') (hne : g ≠ R) : GBlk w' g a := by
  have hl := Blk.lt h
  unfold GBlk Blk at *
  rw [ho.block g hl hne]
  exact h

set_option maxRecDepth 100000 in
set_option maxHeartbeats 1000000 in
theorem gget_any (a : Option Addr) (len cap : Nat) (l : List UInt8) (C : Nat) (B : G) (w : World) (hx : Bys w (.slice a len cap) l) (hll : l.length ≤ 140737488351232) (hlc : len ≤ cap) (hr : ggetR l = (C, B)) :
    Calls Try.prog 29 #[.slice a len cap] w fun e w' => e = .returned (.tuple #[.agg B.cells, .int .i64 (C : Int)]) ∧ Below w.heap.size w w' := by
  have hst := fun x w a md => run_store_float (P := Try.prog) .f64 x w a md
  have HX := Lib.hid hx
  have HLen := Lib.hid (bys_cells hx).1
  have HRes := Lib.hid hr
  obtain ⟨g2, hg2⟩ : ∃ g, g = w.heap.size := ⟨_, rfl⟩
  have HG2 := Lib.hid hg2
  clear hx hr
  go_enter Try.func29, Try.ntmps29
  go_wp2_with fail
  refine (rnew_any a len cap l _ (HX.out.below (Nat.le_refl _) ((Below.refl _ _).alloc (Nat.le_refl _) _)) hll).mono ?_
  rintro e w2 ⟨R, rfl, hR, hrd, hb⟩
  have hsz2 : w.heap.size + 1 ≤ w2.heap.size := by have := hb.size; simpa using this
  have HR := Lib.hid (show g2 ≠ R by simp at hR; omega)
  have HRw := Lib.hid (show w.heap.size ≤ R by simp at hR; omega)
  have HK2 := Lib.hid (show GBlk w2 g2 G.zero from GBlk.keep (W := w.alloc (.cells #[.int .u64 0, .float .f64 0, .float .f64 0, .float .f64 0, .float .f64 0] 54)) (Blk.newAt _ _ _ _ _ hg2 rfl) hb)
  have HB2 := Lib.hid (show Below w.heap.size w w2 from ((Below.refl _ _).alloc (Nat.le_refl _) _).trans (hb.mono (by simp)))
  have hq := rdNum_any R l 0 0 w2 hrd
  obtain ⟨n, c, k, hS⟩ : ∃ n c k, numS l 0 0 = (n, c, k) := ⟨_, _, _, rfl⟩
  rw [hS] at hq
  have HQ := Lib.hid hq
  have HS := Lib.hid hS
  have hres2 : ggetN l n c k = (C, B) := by
    have := HRes.out
    unfold ggetR at this
    rw [hS] at this
    exact this
  have HRes2 := Lib.hid hres2
  rw [← hg2]
  clear hb hR hrd hq hS hsz2 hg2 hres2 HRes
  go_wp2_with fail
  refine HQ.out.mono ?_
  rintro e w3 ⟨ho, rfl, hrd3⟩
  have HR3 := Lib.hid hrd3
  have HB3 := Lib.hid (HB2.out.trans (ho.below HRw.out HB2.out.size))
  have HK3 := Lib.hid (only_gblk HK2.out ho HR.out)
  clear ho hrd3 HQ HB2 HK2
  by_cases hc : c = 0
  · have hc' : ((c : Int) != 0) = false := by subst hc; rfl
    obtain ⟨hnb, hback, -⟩ := numS_zero HS.out
    have hf := HR3.out.facts
    have hlen := HLen.out
    have hkl : k ≤ len := by rw [hlen]; exact hf.2.1
    have hk7 : (len : Int) - ((l.length - k : Nat) : Int) = (k : Int) := by omega
    obtain ⟨a7, hsl, hby⟩ := bys_from a len cap k l w HX.out hlen.symm hlc hkl
    obtain ⟨r, hre⟩ : ∃ r, r = l.drop k := ⟨_, rfl⟩
    have hrl : r.length = len - k := by rw [hre, List.length_drop]; omega
    obtain ⟨m, hm⟩ : ∃ m, m = len - k := ⟨_, rfl⟩
    obtain ⟨cm, hcm⟩ : ∃ m, m = cap - k := ⟨_, rfl⟩
    have hmc : m ≤ cm := by omega
    have hml : m ≤ 140737488351232 := by omega
    have hlk : l.length - k = m := by omega
    have hkb : k ≤ 140737488351232 := by omega
    rw [← hm, ← hcm] at hsl hby
    rw [← hre] at hby
    rw [← hm] at hrl
    have hres3 : (if m < 32 then (2, G.zero) else if bad r ≠ 0 then (bad r, G.zero) else if 32 < m then (5, G.zero) else (0, part n r 4)) = (C, B) := by
      have h := HRes2.out
      unfold ggetN at h
      rw [if_neg (by simp [hc]), hlk, ← hre] at h
      exact h
    have HL := Lib.hid (left_any l k _ R w3 HR3.out)
    have HBy := Lib.hid hby
    have HRl := Lib.hid hrl
    have HRes3 := Lib.hid hres3
    have HN := Lib.hid hnb
    clear hf hback hlen hkl hby hre hrl hres3 hm hcm hlk HRes2 hnb hlc hll hc
    have hkw : wrap64 (k : Int) = (k : Int) := IntWalk.wrap64_in _ ⟨by omega, by omega⟩
    have HX7 := Lib.hid (show ∀ W, Below w.heap.size w W → Bys W (.slice a7 m cm) r from fun W hW => HBy.out.below (Nat.le_refl _) hW)
    by_cases hm32 : m < 32
    · have hd32 : decide ((m : Int) < 32) = true := by simp; omega
      obtain ⟨rfl, rfl⟩ : C = 2 ∧ B = G.zero := by
        have h := HRes3.out
        rw [if_pos hm32] at h
        injection h with h1 h2
        exact ⟨h1.symm, h2.symm⟩
      clear hm32 HRes3
      go_wp2_with (first
        | (go_at_call 22; refine HL.out.mono ?_; rintro e w4 ⟨rfl, q, hw4⟩; (have HW4 := Lib.hid hw4); (have HK4 := Lib.hid (show GBlk w4 g2 G.zero by rw [hw4]; exact HK3.out)); (have HB4 := Lib.hid (show Below w.heap.size w w4 by rw [hw4]; exact below_drewN HB3.out _)); clear hw4 HL)
        | (refine wpList_store_row rfl 54 (.tmp 2) (.tmp 32) rfl g2 G.zero.cells rfl rfl 54 _ HK4.out (gcells_info _) rfl (gcells_one _) ?_))
      exact bodyPost_ret (v := .tuple #[.agg G.zero.cells, .int .i64 2]) (ret_gauge rfl _ _ g2 G.zero _ rfl rfl (Blk.row HK4.out _)) rfl ⟨rfl, below_setRow HB4.out _ _ (by rw [HG2.out]; exact Nat.le_refl _)⟩
    · have hd32 : decide ((m : Int) < 32) = false := by simp; omega
      have HM := Lib.hid hm32
      have HRes4 := Lib.hid (show (if bad r ≠ 0 then (bad r, G.zero) else if 32 < m then (5, G.zero) else (0, part n r 4)) = (C, B) by
        have h := HRes3.out
        rw [if_neg hm32] at h
        exact h)
      have HMc := Lib.hid hmc
      have HMl := Lib.hid hml
      clear hm32 HRes3 hmc hml
      go_upto_region 8 with (go_at_call 22; refine HL.out.mono ?_; rintro e w4 ⟨rfl, q, hw4⟩; (have HK4 := Lib.hid (show GBlk w4 g2 G.zero by rw [hw4]; exact HK3.out)); (have HB4 := Lib.hid (show Below w.heap.size w w4 by rw [hw4]; exact below_drewN HB3.out _)); clear hw4 HL)
      clear hsl hkw hd32 hkb HK3 HB3 HR3
      go_upto_region 9 with (refine wpList_store_row rfl 54 (.tmp 8) (.tmp 34) rfl w4.heap.size (part n r 0).cells rfl rfl 54 _ (heap_alloc_new w4 _) (gcells_info _) rfl (gcells_one _) ?_)
      refine world_cut (fun W => GBlk W g2 G.zero ∧ GBlk W w4.heap.size (part n r 0) ∧ Bys W (.slice a7 m cm) r ∧ Below w.heap.size w W) ?_ ?_
      · have hlt := Blk.lt HK4.out
        refine ⟨GBlk.rowOther (Blk.alloc HK4.out _) _ (by omega), Blk.row (Blk.new w4 _ _) _, ?_, below_setRow (HB4.out.alloc HB4.out.size _) _ _ HB4.out.size⟩
        exact HBy.out.below (Nat.le_refl _) (below_setRow (HB4.out.alloc HB4.out.size _) _ _ HB4.out.size)
      have hg8w := HB4.out.size
      have hg28 : g2 ≠ w4.heap.size := by have := Blk.lt HK4.out; omega
      obtain ⟨g8, hg8⟩ : ∃ g, g = w4.heap.size := ⟨_, rfl⟩
      rw [← hg8] at hg8w hg28 ⊢
      have HG8 := Lib.hid hg8w
      have HNe := Lib.hid hg28
      clear hg8w hg8 hg28 HB4 HK4
      rintro W5 ⟨h1, h2, h3, h4⟩
      have HK5 := Lib.hid h1
      have HP5 := Lib.hid h2
      have HY5 := Lib.hid h3
      have HB5 := Lib.hid h4
      have HLt5 := Lib.hid (show g8 < W5.heap.size from Blk.lt h2)
      have HLt2 := Lib.hid (show g2 < W5.heap.size from Blk.lt h1)
      clear h1 h2 h3 h4
      go_wp2
      obtain ⟨g9, hg9⟩ : ∃ g, g = W5.heap.size := ⟨_, rfl⟩
      have HG9 := Lib.hid hg9
      have hPn : PBlk (W5.alloc (.cells #[.pointer (some ⟨g8, 1, none⟩), .pointer (some ⟨g8, 2, none⟩), .pointer (some ⟨g8, 3, none⟩), .pointer (some ⟨g8, 4, none⟩)] 111)) g9 g8 := Blk.newAt _ _ _ _ _ hg9 rfl
      have HPn := Lib.hid hPn
      rw [← hg9]
      clear hg9 hPn
      go_loopw [41] (fun s41 wr => ∃ i : Nat, i ≤ 4 ∧ s41 = .int .i64 (i : Int) ∧ (∀ j, j < i → cB r j = 0) ∧ GBlk wr g2 G.zero ∧ GBlk wr g8 (part n r i) ∧ PBlk wr g9 g8 ∧ Bys wr (.slice a7 m cm) r ∧ Below w.heap.size w wr) (fun s41 _ => 4 - (intOf s41).toNat)
      case atStart => exact ⟨0, by omega, rfl, fun j hj => by omega, Blk.alloc HK5.out _, Blk.alloc HP5.out _, HPn.out, HY5.out.below (Nat.le_refl _) ((Below.refl _ _).alloc (Nat.le_refl _) _), HB5.out.alloc HB5.out.size _⟩
      case round =>
        obtain ⟨i, hi, rfl, hno, hk2, hk8, hp9, hy, hbel⟩ := hrel
        have HNo := Lib.hid hno
        have HK := Lib.hid hk2
        have HP := Lib.hid hk8
        have HQ9 := Lib.hid hp9
        have HY := Lib.hid hy
        have HB := Lib.hid hbel
        clear hno hk2 hk8 hp9 hy hbel HK5 HP5 HPn HY5 HB5
        by_cases hlt : i < 4
        · have h84 : 8 * i + 8 ≤ m := by have := HM.out; omega
          obtain ⟨a8, hsl8, hby8⟩ := bys_mid a7 m cm (8 * i) (8 * i + 8) r wr HY.out (by omega) h84 HMc.out
          have hpl := pc_length r i (by rw [HRl.out]; exact h84)
          have e88 : 8 * i + 8 - 8 * i = 8 := by omega
          rw [e88] at hsl8 hby8
          have hge : ∀ W, Below wr.heap.size wr W → Calls Try.prog 67 #[.slice a8 8 (cm - 8 * i)] W fun e w' => e = .returned (.tuple #[.float .f64 (fB r i), .int .i64 (cB r i : Int)]) ∧ W = w' := fun W hW =>
            get_any _ (pc r i) (fB r i) (cB r i) W (hby8.below (Nat.le_refl _) hW) (by omega) rfl
          obtain ⟨f, hf⟩ : ∃ f, f = fB r i := ⟨_, rfl⟩
          obtain ⟨c8, hc8⟩ : ∃ c, c = cB r i := ⟨_, rfl⟩
          obtain ⟨cm8, hcm8⟩ : ∃ c, c = cm - 8 * i := ⟨_, rfl⟩
          rw [← hf, ← hc8, ← hcm8] at hge
          rw [← hcm8] at hsl8
          have HF := Lib.hid hf
          have HC8 := Lib.hid hc8
          have HGe := Lib.hid hge
          clear hby8 hpl e88 hge hf hc8 hcm8 h84
          by_cases hc8 : c8 = 0
          · have hc8' : ((c8 : Int) != 0) = false := by subst hc8; rfl
            have HZ := Lib.hid hc8
            clear hc8
            obtain rfl | rfl | rfl | rfl : i = 0 ∨ i = 1 ∨ i = 2 ∨ i = 3 := by omega
            · have hsl9 : ∀ W', (Instr.sliceAt 22 (.slice a7 m cm) (some (.int .i64 0)) (some (.int .i64 8)) none).run Try.prog W' = .ok (.slice a8 8 cm8) W' := hsl8
              clear hsl8
              have hp : wr.cell? ⟨g9, 0, none⟩ = some (.pointer (some ⟨g8, 1, none⟩)) := by rw [Blk.cell HQ9.out]; rfl
              have hcell : ∃ v, wr.cell? ⟨g8, 1, none⟩ = some v := ⟨_, by rw [Blk.cell HP.out]; rfl⟩
              obtain ⟨v0, hcell⟩ := hcell
              have hfr : wr.frozen? ⟨g8, 1, none⟩ = false := Blk.frozen HP.out 1
              go_wp2_with (go_at_call 67; refine (HGe.out _ (Below.refl _ _)).mono ?_; rintro e w' ⟨rfl, rfl⟩)
              go_roundw
              case rel =>
                refine ⟨1, by omega, by go_num, fun j hj => ?_, Blk.other HK.out _ _ HNe.out, ?_, Blk.other HQ9.out _ _ (by have := HG9.out; have := HLt5.out; show g9 ≠ g8; omega), ?_, HB.out.setCell HG8.out _⟩
                · by_cases hj' : j < 0
                  · exact HNo.out j hj'
                  · obtain rfl : j = 0 := by omega
                    rw [← HC8.out]
                    exact HZ.out
                · have h := Blk.set HP.out 1 (.float .f64 f)
                  rw [HF.out] at h ⊢
                  exact h
                · exact HX7.out _ (HB.out.setCell HG8.out _)
              case measure => simp [intOf]
            · have hsl9 : ∀ W', (Instr.sliceAt 22 (.slice a7 m cm) (some (.int .i64 8)) (some (.int .i64 16)) none).run Try.prog W' = .ok (.slice a8 8 cm8) W' := hsl8
              clear hsl8
              have hp : wr.cell? ⟨g9, 1, none⟩ = some (.pointer (some ⟨g8, 2, none⟩)) := by rw [Blk.cell HQ9.out]; rfl
              have hcell : ∃ v, wr.cell? ⟨g8, 2, none⟩ = some v := ⟨_, by rw [Blk.cell HP.out]; rfl⟩
              obtain ⟨v0, hcell⟩ := hcell
              have hfr : wr.frozen? ⟨g8, 2, none⟩ = false := Blk.frozen HP.out 2
              go_wp2_with (go_at_call 67; refine (HGe.out _ (Below.refl _ _)).mono ?_; rintro e w' ⟨rfl, rfl⟩)
              go_roundw
              case rel =>
                refine ⟨2, by omega, by go_num, fun j hj => ?_, Blk.other HK.out _ _ HNe.out, ?_, Blk.other HQ9.out _ _ (by have := HG9.out; have := HLt5.out; show g9 ≠ g8; omega), ?_, HB.out.setCell HG8.out _⟩
                · by_cases hj' : j < 1
                  · exact HNo.out j hj'
                  · obtain rfl : j = 1 := by omega
                    rw [← HC8.out]
                    exact HZ.out
                · have h := Blk.set HP.out 2 (.float .f64 f)
                  rw [HF.out] at h ⊢
                  exact h
                · exact HX7.out _ (HB.out.setCell HG8.out _)
              case measure => simp [intOf]
            · have hsl9 : ∀ W', (Instr.sliceAt 22 (.slice a7 m cm) (some (.int .i64 16)) (some (.int .i64 24)) none).run Try.prog W' = .ok (.slice a8 8 cm8) W' := hsl8
              clear hsl8
              have hp : wr.cell? ⟨g9, 2, none⟩ = some (.pointer (some ⟨g8, 3, none⟩)) := by rw [Blk.cell HQ9.out]; rfl
              have hcell : ∃ v, wr.cell? ⟨g8, 3, none⟩ = some v := ⟨_, by rw [Blk.cell HP.out]; rfl⟩
              obtain ⟨v0, hcell⟩ := hcell
              have hfr : wr.frozen? ⟨g8, 3, none⟩ = false := Blk.frozen HP.out 3
              go_wp2_with (go_at_call 67; refine (HGe.out _ (Below.refl _ _)).mono ?_; rintro e w' ⟨rfl, rfl⟩)
              go_roundw
              case rel =>
                refine ⟨3, by omega, by go_num, fun j hj => ?_, Blk.other HK.out _ _ HNe.out, ?_, Blk.other HQ9.out _ _ (by have := HG9.out; have := HLt5.out; show g9 ≠ g8; omega), ?_, HB.out.setCell HG8.out _⟩
                · by_cases hj' : j < 2
                  · exact HNo.out j hj'
                  · obtain rfl : j = 2 := by omega
                    rw [← HC8.out]
                    exact HZ.out
                · have h := Blk.set HP.out 3 (.float .f64 f)
                  rw [HF.out] at h ⊢
                  exact h
                · exact HX7.out _ (HB.out.setCell HG8.out _)
              case measure => simp [intOf]
            · have hsl9 : ∀ W', (Instr.sliceAt 22 (.slice a7 m cm) (some (.int .i64 24)) (some (.int .i64 32)) none).run Try.prog W' = .ok (.slice a8 8 cm8) W' := hsl8
              clear hsl8
              have hp : wr.cell? ⟨g9, 3, none⟩ = some (.pointer (some ⟨g8, 4, none⟩)) := by rw [Blk.cell HQ9.out]; rfl
              have hcell : ∃ v, wr.cell? ⟨g8, 4, none⟩ = some v := ⟨_, by rw [Blk.cell HP.out]; rfl⟩
              obtain ⟨v0, hcell⟩ := hcell
              have hfr : wr.frozen? ⟨g8, 4, none⟩ = false := Blk.frozen HP.out 4
              go_wp2_with (go_at_call 67; refine (HGe.out _ (Below.refl _ _)).mono ?_; rintro e w' ⟨rfl, rfl⟩)
              go_roundw
              case rel =>
                refine ⟨4, by omega, by go_num, fun j hj => ?_, Blk.other HK.out _ _ HNe.out, ?_, Blk.other HQ9.out _ _ (by have := HG9.out; have := HLt5.out; show g9 ≠ g8; omega), ?_, HB.out.setCell HG8.out _⟩
                · by_cases hj' : j < 3
                  · exact HNo.out j hj'
                  · obtain rfl : j = 3 := by omega
                    rw [← HC8.out]
                    exact HZ.out
                · have h := Blk.set HP.out 4 (.float .f64 f)
                  rw [HF.out] at h ⊢
                  exact h
                · exact HX7.out _ (HB.out.setCell HG8.out _)
              case measure => simp [intOf]
          · have hc8' : ((c8 : Int) != 0) = true := by simp; omega
            obtain ⟨rfl, rfl⟩ : C = c8 ∧ B = G.zero := by
              have hb := bad_at hlt HNo.out (by rw [← HC8.out]; exact hc8)
              have h := HRes4.out
              rw [hb, ← HC8.out, if_pos hc8] at h
              injection h with h1 h2
              exact ⟨h1.symm, h2.symm⟩
            clear hc8 HRes4
            obtain rfl | rfl | rfl | rfl : i = 0 ∨ i = 1 ∨ i = 2 ∨ i = 3 := by omega
            · have hsl9 : ∀ W', (Instr.sliceAt 22 (.slice a7 m cm) (some (.int .i64 0)) (some (.int .i64 8)) none).run Try.prog W' = .ok (.slice a8 8 cm8) W' := hsl8
              clear hsl8
              have hp : wr.cell? ⟨g9, 0, none⟩ = some (.pointer (some ⟨g8, 1, none⟩)) := by rw [Blk.cell HQ9.out]; rfl
              have hcell : ∃ v, wr.cell? ⟨g8, 1, none⟩ = some v := ⟨_, by rw [Blk.cell HP.out]; rfl⟩
              obtain ⟨v0, hcell⟩ := hcell
              have hfr : wr.frozen? ⟨g8, 1, none⟩ = false := Blk.frozen HP.out 1
              have HKs := Lib.hid (Blk.other HK.out ⟨g8, 1, none⟩ (.float .f64 f) HNe.out)
              go_wp2_with (first
                | (go_at_call 67; refine (HGe.out _ (Below.refl _ _)).mono ?_; rintro e w' ⟨rfl, rfl⟩)
                | (refine wpList_store_row rfl 54 (.tmp 2) (.tmp 61) rfl g2 G.zero.cells rfl rfl 54 _ HKs.out (gcells_info _) rfl (gcells_one _) ?_))
              exact bodyPost_ret (v := .tuple #[.agg G.zero.cells, .int .i64 (C : Int)]) (ret_gauge rfl _ _ g2 G.zero _ rfl rfl (Blk.row HKs.out _)) rfl ⟨rfl, below_setRow (HB.out.setCell HG8.out _) _ _ (by rw [HG2.out]; exact Nat.le_refl _)⟩
            · have hsl9 : ∀ W', (Instr.sliceAt 22 (.slice a7 m cm) (some (.int .i64 8)) (some (.int .i64 16)) none).run Try.prog W' = .ok (.slice a8 8 cm8) W' := hsl8
              clear hsl8
              have hp : wr.cell? ⟨g9, 1, none⟩ = some (.pointer (some ⟨g8, 2, none⟩)) := by rw [Blk.cell HQ9.out]; rfl
              have hcell : ∃ v, wr.cell? ⟨g8, 2, none⟩ = some v := ⟨_, by rw [Blk.cell HP.out]; rfl⟩
              obtain ⟨v0, hcell⟩ := hcell
              have hfr : wr.frozen? ⟨g8, 2, none⟩ = false := Blk.frozen HP.out 2
              have HKs := Lib.hid (Blk.other HK.out ⟨g8, 2, none⟩ (.float .f64 f) HNe.out)
              go_wp2_with (first
                | (go_at_call 67; refine (HGe.out _ (Below.refl _ _)).mono ?_; rintro e w' ⟨rfl, rfl⟩)
                | (refine wpList_store_row rfl 54 (.tmp 2) (.tmp 61) rfl g2 G.zero.cells rfl rfl 54 _ HKs.out (gcells_info _) rfl (gcells_one _) ?_))
              exact bodyPost_ret (v := .tuple #[.agg G.zero.cells, .int .i64 (C : Int)]) (ret_gauge rfl _ _ g2 G.zero _ rfl rfl (Blk.row HKs.out _)) rfl ⟨rfl, below_setRow (HB.out.setCell HG8.out _) _ _ (by rw [HG2.out]; exact Nat.le_refl _)⟩
            · have hsl9 : ∀ W', (Instr.sliceAt 22 (.slice a7 m cm) (some (.int .i64 16)) (some (.int .i64 24)) none).run Try.prog W' = .ok (.slice a8 8 cm8) W' := hsl8
              clear hsl8
              have hp : wr.cell? ⟨g9, 2, none⟩ = some (.pointer (some ⟨g8, 3, none⟩)) := by rw [Blk.cell HQ9.out]; rfl
              have hcell : ∃ v, wr.cell? ⟨g8, 3, none⟩ = some v := ⟨_, by rw [Blk.cell HP.out]; rfl⟩
              obtain ⟨v0, hcell⟩ := hcell
              have hfr : wr.frozen? ⟨g8, 3, none⟩ = false := Blk.frozen HP.out 3
              have HKs := Lib.hid (Blk.other HK.out ⟨g8, 3, none⟩ (.float .f64 f) HNe.out)
              go_wp2_with (first
                | (go_at_call 67; refine (HGe.out _ (Below.refl _ _)).mono ?_; rintro e w' ⟨rfl, rfl⟩)
                | (refine wpList_store_row rfl 54 (.tmp 2) (.tmp 61) rfl g2 G.zero.cells rfl rfl 54 _ HKs.out (gcells_info _) rfl (gcells_one _) ?_))
              exact bodyPost_ret (v := .tuple #[.agg G.zero.cells, .int .i64 (C : Int)]) (ret_gauge rfl _ _ g2 G.zero _ rfl rfl (Blk.row HKs.out _)) rfl ⟨rfl, below_setRow (HB.out.setCell HG8.out _) _ _ (by rw [HG2.out]; exact Nat.le_refl _)⟩
            · have hsl9 : ∀ W', (Instr.sliceAt 22 (.slice a7 m cm) (some (.int .i64 24)) (some (.int .i64 32)) none).run Try.prog W' = .ok (.slice a8 8 cm8) W' := hsl8
              clear hsl8
              have hp : wr.cell? ⟨g9, 3, none⟩ = some (.pointer (some ⟨g8, 4, none⟩)) := by rw [Blk.cell HQ9.out]; rfl
              have hcell : ∃ v, wr.cell? ⟨g8, 4, none⟩ = some v := ⟨_, by rw [Blk.cell HP.out]; rfl⟩
              obtain ⟨v0, hcell⟩ := hcell
              have hfr : wr.frozen? ⟨g8, 4, none⟩ = false := Blk.frozen HP.out 4
              have HKs := Lib.hid (Blk.other HK.out ⟨g8, 4, none⟩ (.float .f64 f) HNe.out)
              go_wp2_with (first
                | (go_at_call 67; refine (HGe.out _ (Below.refl _ _)).mono ?_; rintro e w' ⟨rfl, rfl⟩)
                | (refine wpList_store_row rfl 54 (.tmp 2) (.tmp 61) rfl g2 G.zero.cells rfl rfl 54 _ HKs.out (gcells_info _) rfl (gcells_one _) ?_))
              exact bodyPost_ret (v := .tuple #[.agg G.zero.cells, .int .i64 (C : Int)]) (ret_gauge rfl _ _ g2 G.zero _ rfl rfl (Blk.row HKs.out _)) rfl ⟨rfl, below_setRow (HB.out.setCell HG8.out _) _ _ (by rw [HG2.out]; exact Nat.le_refl _)⟩
        · obtain rfl : i = 4 := by omega
          have hb0 := bad_none HNo.out
          by_cases hm5 : 32 < m
          · have hd5 : decide ((32 : Int) < (m : Int)) = true := by simp; omega
            obtain ⟨rfl, rfl⟩ : C = 5 ∧ B = G.zero := by
              have h := HRes4.out
              rw [if_neg (by simp [hb0]), if_pos hm5] at h
              injection h with h1 h2
              exact ⟨h1.symm, h2.symm⟩
            clear hm5 HRes4 hb0
            go_wp2_with (refine wpList_store_row rfl 54 (.tmp 2) (.tmp 67) rfl g2 G.zero.cells rfl rfl 54 _ HK.out (gcells_info _) rfl (gcells_one _) ?_)
            exact bodyPost_ret (v := .tuple #[.agg G.zero.cells, .int .i64 5]) (ret_gauge rfl _ _ g2 G.zero _ rfl rfl (Blk.row HK.out _)) rfl ⟨rfl, below_setRow HB.out _ _ (by rw [HG2.out]; exact Nat.le_refl _)⟩
          · have hd5 : decide ((32 : Int) < (m : Int)) = false := by simp; omega
            obtain ⟨rfl, rfl⟩ : C = 0 ∧ B = part n r 4 := by
              have h := HRes4.out
              rw [if_neg (by simp [hb0]), if_neg hm5] at h
              injection h with h1 h2
              exact ⟨h1.symm, h2.symm⟩
            clear hm5 HRes4 hb0
            go_wp2_with (first
              | (refine wpList_load_row rfl 54 (.tmp 8) rfl g8 rfl _ _ _ _ HP.out Try.underlying54 rfl (gcells_info _) ?_)
              | (refine wpList_store_row rfl 54 (.tmp 2) (.tmp 68) rfl g2 (part n r 4).cells rfl rfl 54 _ HK.out (gcells_info _) rfl (gcells_one _) ?_))
            exact bodyPost_ret (v := .tuple #[.agg (part n r 4).cells, .int .i64 0]) (ret_gauge rfl _ _ g2 (part n r 4) _ rfl rfl (Blk.row HK.out _)) rfl ⟨rfl, below_setRow HB.out _ _ (by rw [HG2.out]; exact Nat.le_refl _)⟩
  · have hc' : ((c : Int) != 0) = true := by simp; omega
    obtain ⟨rfl, rfl⟩ : C = c ∧ B = G.zero := by
      have h := HRes2.out
      unfold ggetN at h
      rw [if_pos hc] at h
      injection h with h1 h2
      exact ⟨h1.symm, h2.symm⟩
    clear hc HRes2
    go_wp2_with (refine wpList_store_row rfl 54 (.tmp 2) (.tmp 20) rfl g2 G.zero.cells rfl rfl 54 _ HK3.out (gcells_info _) rfl (gcells_one _) ?_)
    exact bodyPost_ret (v := .tuple #[.agg G.zero.cells, .int .i64 (C : Int)]) (ret_gauge rfl _ _ g2 G.zero _ rfl rfl (Blk.row HK3.out _)) rfl ⟨rfl, below_setRow HB3.out _ _ (by rw [HG2.out]; exact Nat.le_refl _)⟩

end Go.Proofs.Ytboongdoggggoaa
