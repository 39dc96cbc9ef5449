/- CrcBursts: the walk. -/
import Derived.Test.YtkndaheonlnclaaDoorCrcTab
import Derived.Test.YtkndaheonlnclaaDoorCrcThree
namespace Go.Proofs.YtkndaheonlnclaaDoor
open Go.RowKit CrcMath

/-- What the loop has done so far. -/
def BurstAt (B : Nat) (w0 : World) (v : Value) (l : List UInt8) (t : BitVec 32) (f : Nat) (s8 s9 : Value) (wr : World) : Prop :=
  ∃ i : Nat, i ≤ 32 ∧ f + i ≤ 8 * l.length ∧ s9 = .int .i64 i ∧ ∃ b : Bool, s8 = .bool b ∧ b = decide (low t i ≠ 0#32) ∧ ∃ l', l'.length = l.length ∧ Row wr B v l' ∧ (∀ c, R l' c = R l c ^^^ P (8 * l.length - f) (low t i)) ∧ Below B w0 wr

theorem rv_shr (t : BitVec 32) (i : Nat) : rv t / (2 : Int) ^ i = rv (t >>> i) := by
  unfold rv
  rw [BitVec.toNat_ushiftRight, Nat.shiftRight_eq_div_pow]
  push_cast
  rfl

theorem rv_bit (t : BitVec 32) (i : Nat) : (bits .and .u32 (rv t / (2 : Int) ^ i) 1 == 1) = t.getLsbD i := by
  rw [rv_shr, rv_odd]
  simp

theorem zx_pow (k : Nat) (hk : k < 8) : zx (UInt8.ofNat (2 ^ k)) = 1#32 <<< k := by
  have : ∀ k : Fin 8, zx (UInt8.ofNat (2 ^ k.val)) = 1#32 <<< k.val := by decide +kernel
  exact this ⟨k, hk⟩

theorem turn_byte (y : UInt8) (k : Nat) (hk : k < 8) : bits .xor .u8 (y.toNat : Int) ((2 : Int) ^ k % 256) = ((y ^^^ UInt8.ofNat (2 ^ k)).toNat : Int) := by
  have e : ∀ k : Fin 8, (2 : Int) ^ k.val % 256 = ((UInt8.ofNat (2 ^ k.val)).toNat : Int) := by decide +kernel
  have e2 := e ⟨k, hk⟩
  simp only at e2
  rw [e2, u8_xor_bv]

/-- What a turned byte does to the register. -/
theorem turned {l l' : List UInt8} {t : BitVec 32} {f i q k : Nat} (hl : l'.length = l.length) (hf : f + i < 8 * l.length) (hi : i < 32) (hq : q = (f + i) / 8) (hk : k = (f + i) % 8) {y : UInt8} (hy : l'[q]? = some y) (hb : t.getLsbD i = true)
    (hR : ∀ c, R l' c = R l c ^^^ P (8 * l.length - f) (low t i)) (c : BitVec 32) : R (l'.set q (y ^^^ UInt8.ofNat (2 ^ k))) c = R l c ^^^ P (8 * l.length - f) (low t (i + 1)) := by
  have hk8 : k < 8 := by omega
  rw [R_turn l' q k y hy hk8 _ (by rw [zx_xor, zx_pow k hk8]), hR, low, hb, if_pos rfl, P_xor, P_bit_at _ i hi (by omega), BitVec.xor_assoc]
  congr 3
  omega

theorem sum_ne {l l' : List UInt8} {m : Nat} {v : BitVec 32} (hR : ∀ c, R l' c = R l c ^^^ P m v) : (rv (sum l') != rv (sum l)) = decide (v ≠ 0#32) := by
  have e : (rv (sum l') == rv (sum l)) = decide (v = 0#32) := by
    rw [rv_eq, decide_eq_decide]
    unfold sum
    unfold more
    rw [hR]
    constructor
    · intro h0
      have h := congrArg (fun z : BitVec 32 => ~~~ z) h0
      simp only [BitVec.not_not] at h
      apply P_inj m
      have h2 : R l (~~~ 0#32) ^^^ (R l (~~~ 0#32) ^^^ P m v) = 0#32 := by rw [h]; simp
      rw [← BitVec.xor_assoc] at h2
      simpa using h2
    · intro h
      rw [h, P_zero]
      simp
  unfold bne
  rw [e]
  simp

set_option maxHeartbeats 2000000 in
theorem bursts_walk (a : Option Addr) (n cap : Nat) (l : List UInt8) (x : Int) (t : BitVec 32) (w : World) (hv : Bys w (.slice a n cap) l) (hnc : n ≤ cap) (hc : cap ≤ 140737488351232) (ht : Tab w) :
    Calls Tryd.prog 7 #[.slice a n cap, .int .i64 x, .int .u32 (rv t)] w fun e w' => e = .returned (.bool true) ∧ Below w.heap.size w w' := by
  have HT := Lib.hid ht
  have HV := Lib.hid hv
  clear hv ht
  by_cases h0 : n = 0
  · subst h0
    go_enter Tryd.func7, Tryd.ntmps7
    go_wp2_with fail
    refine (awake_any _ HT.out).mono ?_
    rintro e w1 ⟨rfl, hb1⟩
    have B1 := Lib.hid hb1
    clear hb1
    go_wp2
    go_ret
    exact ⟨rfl, B1.out⟩
  · have hpos : 0 < n := by omega
    have hne : ((n : Int) == 0) = false := by simp; omega
    clear h0
    obtain ⟨g, hg, hg1⟩ : ∃ g : Nat, IntKind.u64.wrap x = (g : Int) ∧ g < 18446744073709551616 := by
      refine ⟨(x % 18446744073709551616).toNat, ?_, by omega⟩
      simp [IntKind.wrap, IntKind.bits, IntKind.signed]
      omega
    go_enter Tryd.func7, Tryd.ntmps7
    go_wp2_with fail
    refine (awake_any _ HT.out).mono ?_
    rintro e w1 ⟨rfl, hb1⟩
    have HV1 := Lib.hid (HV.out.below (Nat.le_refl _) hb1)
    have HT1 := Lib.hid (HT.out.below (Nat.le_refl _) hb1)
    have B1 := Lib.hid hb1
    clear hb1
    have hll : l.length = n := HV.out.open.1
    have A1 := Lib.hid (append_lit (B := w.heap.size) (g := w1.heap.size) (w := w1.alloc (.cells #[] 5)) B1.out.size (heap_alloc_new w1 _) (HV1.out.below (Nat.le_refl _) ((Below.refl _ w1).alloc (Nat.le_refl _) _)) (by omega))
    obtain ⟨f, hf, hfn⟩ : ∃ f : Nat, wrap64 ((g : Int) % (8 * (n : Int))) = (f : Int) ∧ f < 8 * n := by
      have e : ((g : Int) % (8 * (n : Int))) = ((g % (8 * n) : Nat) : Int) := by push_cast; rfl
      have hlt : g % (8 * n) < 8 * n := Nat.mod_lt _ (by omega)
      refine ⟨g % (8 * n), ?_, hlt⟩
      rw [e]
      exact IntWalk.wrap64_in _ ⟨by omega, by omega⟩
    have HLL := Lib.hid hll
    clear hll
    go_wp2_with (at_builtin; refine wpList_append_by rfl (.tmp 23) (.tmp 24) 22 rfl _ _ rfl rfl _ A1.out ?_)
    rintro v25 w2 hr25 hb2
    obtain ⟨g25, c25, hv25, hB25, hg25, hc25, hcm⟩ := hr25.shape (by intro h; have := HLL.out; rw [h] at this; simp at this; omega)
    have hb3 : Below w.heap.size w w2 := (B1.out.trans (((Below.refl _ w1).alloc (Nat.le_refl _) (.cells #[] 5)).mono B1.out.size)).trans (hb2.mono (by have := B1.out.size; simp; omega))
    rw [HLL.out] at hv25 hc25
    subst hv25
    have HR := Lib.hid hr25
    have HB := Lib.hid hb3
    clear hr25 hb2 hb3 hg
    go_wp2
    clear hf
    go_loopw [8, 9] (fun s8 s9 wr => BurstAt w.heap.size w (.slice (some ⟨g25, 0, none⟩) n c25) l t f s8 s9 wr) (fun _ s9 _ => 32 - (intOf s9).toNat)
    case atStart =>
      exact ⟨0, by omega, by have := HLL.out; omega, rfl, false, rfl, by simp [low], l, rfl, HR.out, fun c => by simp [low, P_zero], HB.out⟩
    case round =>
      obtain ⟨i, hi, hfi, rfl, b, rfl, hbs, l', hl', hrow, hR, hbel⟩ := hrel
      have hfi' : f + i ≤ 8 * n := by rw [HLL.out] at hfi; exact hfi
      have HL' := Lib.hid hl'
      have HBS := Lib.hid hbs
      have HRow := Lib.hid hrow
      have HRR := Lib.hid hR
      have HBe := Lib.hid hbel
      clear hl' hrow hR hbel hfi hbs
      by_cases h1 : i < 32 ∧ f + i < 8 * n
      · obtain ⟨h32, h8n⟩ := h1
        cases hbit : t.getLsbD i
        · have hb := rv_bit t i
          rw [hbit] at hb
          have HBit := Lib.hid hbit
          clear hbit
          go_wp2
          go_roundw
          case rel =>
            refine ⟨i + 1, by omega, by have := HLL.out; omega, by go_num, b, rfl, ?_, l', HL'.out, HRow.out, ?_, HBe.out⟩
            · rw [HBS.out, low, HBit.out]; simp
            · intro c; rw [HRR.out, low, HBit.out]; simp
          case measure => simp [intOf]; omega
        · have hb := rv_bit t i
          rw [hbit] at hb
          have HBit := Lib.hid hbit
          clear hbit
          obtain ⟨q, hq⟩ : ∃ q, q = (f + i) / 8 := ⟨_, rfl⟩
          have hql : q < l'.length := by have h1 := HL'.out; have h2 := HLL.out; omega
          obtain ⟨y, hy⟩ : ∃ y, y = l'[q] := ⟨_, rfl⟩
          obtain ⟨ky, hky⟩ : ∃ k : Nat, k = y.toNat := ⟨_, rfl⟩
          have hcell : wr.cell? ⟨g25, (f + i) / 8, none⟩ = some (.int .u8 (ky : Int)) := by
            rw [← hq, (row_at HRow.out q hql).1, ← hy, bv, hky]
          have hfrz : wr.frozen? ⟨g25, (f + i) / 8, none⟩ = false := by rw [← hq]; exact (row_at HRow.out q hql).2
          have HQ := Lib.hid hq
          have HY := Lib.hid (show l'[q]? = some y by rw [hy]; exact List.getElem?_eq_getElem hql)
          have HKy := Lib.hid hky
          clear hq hy hky hql
          go_wp2
          go_roundw
          case rel =>
            have hk8 : (f + i) % 8 < 8 := Nat.mod_lt _ (by omega)
            have e : bits .xor .u8 (ky : Int) ((2 : Int) ^ ((f + i) % 8) % 256) = ((y ^^^ UInt8.ofNat (2 ^ ((f + i) % 8))).toNat : Int) := by rw [HKy.out]; exact turn_byte y _ hk8
            rw [e, ← HQ.out]
            refine ⟨i + 1, by omega, by have := HLL.out; omega, by go_num, true, rfl, ?_, l'.set q (y ^^^ UInt8.ofNat (2 ^ ((f + i) % 8))), by rw [List.length_set]; exact HL'.out, row_set HRow.out q _, ?_, HBe.out.setCell hB25 _⟩
            · exact (decide_eq_true (low_ne t i h32 HBit.out)).symm
            · exact turned HL'.out (by have := HLL.out; omega) h32 HQ.out rfl HY.out HBit.out HRR.out
          case measure => simp [intOf]; omega
      · have hne2 : (rv (sum l') != rv (sum l)) = b := by rw [sum_ne HRR.out, HBS.out]
        obtain ⟨r1, hr1⟩ : ∃ r, r = sum l' := ⟨_, rfl⟩
        obtain ⟨r2, hr2⟩ : ∃ r, r = sum l := ⟨_, rfl⟩
        rw [← hr1, ← hr2] at hne2
        have K1 := Lib.hid (sum_any _ l' wr HRow.out.bys (by have h1 := HL'.out; have h2 := HLL.out; omega) (HT.out.below (Nat.le_refl _) HBe.out))
        have K2 := Lib.hid (sum_any _ l wr (HV.out.below (Nat.le_refl _) HBe.out) (by have h2 := HLL.out; omega) (HT.out.below (Nat.le_refl _) HBe.out))
        rw [← hr1] at K1
        rw [← hr2] at K2
        clear hr1 hr2
        have hex : 32 ≤ i ∨ (i < 32 ∧ 8 * n ≤ f + i) := by omega
        clear h1
        rcases hex with h32 | ⟨h32, h8n⟩
        all_goals
          go_wp2_with fail
          refine K1.out.mono ?_
          rintro e w' ⟨rfl, rfl⟩
          go_wp2_with fail
          refine K2.out.mono ?_
          rintro e w' ⟨rfl, rfl⟩
          go_wp2
          go_ret
          exact ⟨rfl, HBe.out⟩

theorem bursts_all (w : World) (ht : Tab w) (a : Option Addr) (n cap : Nat) (z : List Int) (hz : IsRow .u8 w a n cap z) (sz : cap * 1 ≤ 140737488351232) (x : Int) (_wx : (Lit.int .i64 x).wf = true) (t : Int) (wt : (Lit.int .u32 t).wf = true) :
    Calls Tryd.prog 7 #[.slice a n cap, .int .i64 x, .int .u32 t] w fun e w' => e = .returned (.bool true) ∧ Below w.heap.size w w' := by
  obtain ⟨l, -, hb⟩ := hz.bys
  obtain ⟨y, rfl⟩ := of_u32 t wt
  exact bursts_walk a n cap l x y w hb hz.le (by omega) ht
end Go.Proofs.YtkndaheonlnclaaDoor
