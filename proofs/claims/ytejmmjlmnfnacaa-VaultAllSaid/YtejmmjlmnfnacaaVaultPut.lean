/- The law's put. -/
import Derived.Test.YtejmmjlmnfnacaaVaultRun
namespace Go.Proofs.Ytejmmjlmnfnacaa
open Go.RowKit Go.Maps DiskMath SwapMath Reg

section
variable {w0 W W' : World} {B y d c z x : Nat} {s : St} {t : Tx} {o : Bool} {V : RV} {U : Nat → Prop}

/-- Blocks that are no run's are written. -/
theorem Run.off {S : Nat → Prop} (h : Run w0 B y d c z x s t o V W U) (ho : OnlyS S W W') (hS : ∀ k, k < W.heap.size → S k → ¬ U k ∧ k ≠ B ∧ k ≠ y ∧ k ≠ z ∧ w0.heap.size ≤ k) : Run w0 B y d c z x s t o V W' U where
  sw := h.sw.same (fun k hk => ho.block k (h.sw.lt k hk) fun hs => (hS k (h.sw.lt k hk) hs).1 hk) ho.size
  aU := h.aU
  nB := h.nB
  ny := h.ny
  nz := h.nz
  ref := h.ref.stays (ho.block y h.ref.lt fun hs => (hS y h.ref.lt hs).2.2.1 rfl)
  run := h.run.stays (ho.block B h.run.lt fun hs => (hS B h.run.lt hs).2.1 rfl)
  vault := h.vault.stays (ho.block z h.vault.lt fun hs => (hS z h.vault.lt hs).2.2.2.1 rfl)
  aB := h.aB
  ay := h.ay
  az := h.az
  bel := h.bel.trans (ho.below (fun k hk hs => by
    have := h.bel.size
    have := (hS k (by omega) hs).2.2.2.2
    omega) h.bel.size)

/-- How the vault's Put ends in a run. -/
def PutW (w0 : World) (B y d c z x : Nat) (s : St) (t : Tx) (b : List UInt8) (V : RV) (W : World) (U : Nat → Prop) (e : Ending) (W' : World) : Prop :=
  ∃ (E : Nat) (s' : St) (t' : Tx) (o' : Bool) (U' : Nat → Prop), e = .returned (.int .i64 (E : Int)) ∧ Run w0 B y d c z x s' t' o' V W' U' ∧ OnlyS U W W' ∧ (∀ k, U' k → more W U W' k) ∧ s'.room = s.room ∧ (s.fuse = -1 → s'.fuse = -1) ∧
    ((E = 4 ∧ 32768 < b.length ∧ s' = s ∧ t' = t ∧ o' = false) ∨ (E = 0 ∧ b.length ≤ 32768 ∧ t' = some b ∧ o' = false ∧ Fresh qS [] s' (some b)) ∨ (E = 6 ∧ b.length ≤ 32768 ∧ t' = t ∧ o' = true ∧ s.fuse ≠ -1 ∧ Gone qS [] s' t (some b)))

theorem run_put {b : List UInt8} {ta : Option Addr} {tn tc : Nat} (hr : Run w0 B y d c z x s t false V W U) (hi : Idle qS [] s t) (hR : 262144 ≤ s.room) (ht : Bys W (.slice ta tn tc) b) (htn : b.length = tn) (hta : b ≠ [] → ∀ ad, ta = some ad → ad.block < W.heap.size ∧ ¬ U ad.block) (hc : c + 3 ≤ 2000) :
    Calls Try.prog 26 #[.pointer (some ⟨z, 0, none⟩), .slice ta tn tc] W (PutW w0 B y d (c + 3) z x s t b V W U) := by
  by_cases hl : 32768 < tn
  · refine (vPut_long hr.vault hr.sw hl).mono ?_
    rintro e w' ⟨rfl, rfl⟩
    have hk : s.sure.length + s.ops.length ≤ c + 3 := by
      obtain ⟨m1, m2, F1, F2, ws, G, hd, -⟩ := hr.sw.disk.ex
      have := hd.ok.few
      omega
    exact ⟨4, s, t, false, U, rfl, hr.tight hk hc, OnlyS.refl _ _, fun k hk => .inl hk, rfl, fun h => h, .inl ⟨rfl, by omega, rfl, rfl, rfl⟩⟩
  · have hend := put_idle qS_wn hi (b := b) (by omega) hR
    refine (vPut_any qS_wn hr.vault hr.sw ht htn (by omega) hta hc).mono ?_
    rintro e w' ⟨rfl, hse⟩
    obtain ⟨hcase, hroom, hcalm⟩ := hend
    rcases hcase with ⟨h0, hi2⟩ | ⟨h6, hf, hg⟩
    · have hn := hse.1 h0
      rw [h0]
      exact ⟨0, _, some b, false, _, rfl, hr.snx hn, hn.only, fun k hk => hk, hroom, hcalm, .inr (.inl ⟨rfl, by omega, rfl, rfl, hi2⟩)⟩
    · have hn := hse.2.2 (by rw [h6]; decide) (by rw [h6]; decide)
      rw [h6]
      exact ⟨6, _, t, true, _, rfl, hr.snx hn, hn.only, fun k hk => hk, hroom, hcalm, .inr (.inr ⟨rfl, by omega, rfl, rfl, hf, hg⟩)⟩
end

/-- How the law's put ends. -/
def PutR (w0 : World) (B y d c z x : Nat) (s : St) (t : Tx) (b : List UInt8) (W : World) (U : Nat → Prop) (e : Ending) (W' : World) : Prop :=
  e = .returned (.bool true) ∧ ∃ s' U', s'.room = s.room ∧ (s.fuse = -1 → s'.fuse = -1) ∧ (∀ k, U' k → U k ∨ W.heap.size ≤ k) ∧ OnlyS (fun k => U k ∨ k = y) W W' ∧
    ((32768 < b.length ∧ s' = s ∧ Run w0 B y d c z x s t false ⟨t, t, false⟩ W' U') ∨ (b.length ≤ 32768 ∧ Fresh qS [] s' (some b) ∧ Run w0 B y d c z x s' (some b) false ⟨some b, some b, false⟩ W' U') ∨
     (b.length ≤ 32768 ∧ s.fuse ≠ -1 ∧ Gone qS [] s' t (some b) ∧ Run w0 B y d c z x s' t true ⟨t, some b, true⟩ W' U'))

set_option maxHeartbeats 4000000 in
set_option maxRecDepth 100000 in
theorem rput_any {w0 W : World} {B y d c z x : Nat} {s : St} {t : Tx} {b : List UInt8} {ta : Option Addr} {tn tc : Nat} {U : Nat → Prop} (hr : Run w0 B y d c z x s t false ⟨t, t, false⟩ W U) (hi : Idle qS [] s t) (hR : 262144 ≤ s.room) (ht : Bys W (.slice ta tn tc) b) (htn : b.length = tn) (hn : tn ≤ 4194304) (hta : b ≠ [] → ∀ ad, ta = some ad → ad.block < W.heap.size ∧ ¬ U ad.block) (hc : c + 3 ≤ 2000) :
    Calls Try.prog 21 #[.pointer (some ⟨B, 0, none⟩), .slice ta tn tc] W (PutR w0 B y d (c + 3) z x s t b W U) := by
  obtain ⟨b0, hb0⟩ : ∃ b0, b0 = W.heap.size := ⟨_, rfl⟩
  obtain ⟨W0, hW0⟩ : ∃ W0, W0 = W.alloc (.cells #[] 5) := ⟨_, rfl⟩
  have hlit : W0.heap[b0]? = some (.cells #[] 5 (0, 0)) := by rw [hW0, hb0]; exact heap_alloc_new W _
  have hb00 : Below W.heap.size W W0 := by rw [hW0]; exact (Below.refl _ W).alloc (Nat.le_refl _) _
  have hap := append_lit (B := W.heap.size) (by rw [hb0]; exact Nat.le_refl _) hlit (ht.below (Nat.le_refl _) hb00) (by omega)
  have HAp := Lib.hid hap
  have HPut : Hid (∀ W1 va vc, Below W.heap.size W W1 → Row W1 W.heap.size (.slice va tn vc) b → Calls Try.prog 26 #[.pointer (some ⟨z, 0, none⟩), .slice va tn vc] W1 (PutW w0 B y d (c + 3) z x s t b ⟨t, t, false⟩ W1 U)) := fun W1 va vc hW hrow => by
    refine run_put (hr.below hW) hi hR hrow.bys htn (fun _ ad e => ?_) hc
    have hob : (Value.slice va tn vc).ownBlock = some ad.block := by
      rcases hrow.2 with ⟨h1, -⟩ | ⟨g, cp, cur, h1, -⟩
      · subst e; cases h1
      · subst e; cases h1; rfl
    have h1 := hrow.lt hob
    exact ⟨h1.2, fun hU => by have := hr.sw.lt _ hU; omega⟩
  have HRun := Lib.hid hr
  have HBy := Lib.hid ht
  have HTn := Lib.hid htn
  have HN := Lib.hid hn
  have HTa := Lib.hid hta
  have HIdle := Lib.hid hi
  have HB00 := Lib.hid hb00
  have hsz0 : b0 + 1 = W0.heap.size := by rw [hW0, hb0]; simp
  have hwb : W.heap.size = b0 := hb0.symm
  have HSz0 := Lib.hid hsz0
  have HWb := Lib.hid hwb
  clear hap hr hi hR ht htn hn hta hc hlit hb00 hsz0 hwb
  go_enter Try.func21, Try.ntmps21
  rw [hW0, hb0] at HAp
  clear hW0 hb0
  go_wp2_with (at_builtin; refine wpList_append_by rfl _ _ 50 rfl _ _ rfl rfl _ HAp.out ?_; rintro v1 w1 ⟨hr1, hb1⟩; obtain ⟨va, vc, rfl⟩ := slice_of_row hr1; rw [HTn.out] at hr1 ⊢; (have HR1 := Lib.hid hr1); (have HB1 := Lib.hid hb1); clear hr1 hb1; (have HB1' : Hid (Below W.heap.size W w1) := Lib.hid (((Below.refl _ W).alloc (Nat.le_refl _) _).trans (HB1.out.mono (by simp)))); (have HRun1 := Lib.hid (HRun.out.below HB1'.out)); (have kB1 : w1.cell? ⟨B, 1, none⟩ = some (.pointer (some ⟨z, 0, none⟩)) := by rw [HRun1.out.run.cell]; rfl))
  refine (HPut.out w1 va vc HB1'.out HR1.out).mono ?_
  rintro e w3 ⟨E, s', t', o', U', rfl, hr3, ho3, hU3, hroom, hcalm, hways⟩
  have HR3 := Lib.hid hr3
  have HO3 := Lib.hid ho3
  have HU3 := Lib.hid hU3
  have HRoom := Lib.hid hroom
  have HCalm := Lib.hid hcalm
  have HWays := Lib.hid hways
  have hown : ∀ k, (Value.slice va tn vc).ownBlock = some k → ¬ U k ∧ W.heap.size ≤ k ∧ k < w1.heap.size := fun k hk => by
    have h1 := HR1.out.lt hk
    exact ⟨fun hU => by have := HRun.out.sw.lt _ hU; omega, h1.1, h1.2⟩
  have HOwn := Lib.hid hown
  have hrow3 : Row w3 W.heap.size (.slice va tn vc) b := HR1.out.same fun k hk => ho3.block k (hown k hk).2.2 (hown k hk).1
  have HRow3 := Lib.hid hrow3
  have hby3 : Bys w3 (.slice ta tn tc) b := bys_same (HBy.out.below (Nat.le_refl _) HB1'.out) fun hb ad e => ho3.block _ (Nat.lt_of_lt_of_le (HTa.out hb ad e).1 HB1'.out.size) (HTa.out hb ad e).2
  have HBy3 := Lib.hid hby3
  clear hr3 ho3 hU3 hroom hcalm hways hown hrow3 hby3 kB1 HPut HAp
  have htn4 := HN.out
  go_wp2_with fail
  go_loopw [7] (fun s7 wr => ∃ (j : Nat) (l' : List UInt8), j ≤ tn ∧ l'.length = tn ∧ s7 = .int .i64 j ∧ Hid (Row wr W.heap.size (.slice va tn vc) l') ∧ Hid (OnlyS (fun k => (Value.slice va tn vc).ownBlock = some k) w3 wr)) (fun s7 _ => tn - (intOf s7).toNat)
  case atStart => exact ⟨0, b, Nat.zero_le _, HTn.out, rfl, HRow3, Lib.hid (OnlyS.refl _ _)⟩
  case round =>
    obtain ⟨j, lj, hj, hll, rfl, HRw, HOw⟩ := hrel
    by_cases hjk : j < tn
    · have j0 : (0 : Int) ≤ (j : Int) := Int.natCast_nonneg _
      have j1 : (j : Int) < (tn : Int) := by omega
      have hrw := HRw.out
      obtain ⟨gx, hgx⟩ : ∃ gx, va = some ⟨gx, 0, none⟩ := by
        rcases hrw.2 with ⟨hv, h0⟩ | ⟨gx, cap, cur, hv, _⟩
        · omega
        · simp at hv
          exact ⟨gx, hv.1⟩
      subst hgx
      obtain ⟨⟨zb, hz⟩, hfz⟩ := row_cell hrw j (by omega)
      have HLL := Lib.hid hll
      clear hrw hll
      go_wp2
      go_roundw
      case rel =>
        obtain ⟨b', hb'⟩ := u8_wrap (zb + 1)
        refine ⟨j + 1, lj.set j b', by omega, by rw [List.length_set]; exact HLL.out, by go_num, Lib.hid ?_, Lib.hid ?_⟩
        · have h := row_set HRw.out j b'
          rw [← hb'] at h
          first | exact h | (rw [IntKind.wrap_u8] at h; exact h)
        · exact only_put HOw.out rfl j _
      case measure => simp [intOf]; omega
    · have hrun := HR3.out.off HOw.out fun k hk hs => by
        have h1 := HOwn.out k hs
        have h2 := HRow3.out
        refine ⟨fun hU' => ?_, fun e => ?_, fun e => ?_, fun e => ?_, Nat.le_trans HRun.out.bel.size h1.2.1⟩
        · rcases HU3.out k hU' with h | h
          · exact h1.1 h
          · omega
        · subst e; exact row_ne_blk h2 HR3.out.run (by decide) hs
        · subst e; exact row_ne_blk h2 HR3.out.ref (by decide) hs
        · subst e; exact row_ne_blk h2 HR3.out.vault (by decide) hs
      have hbyr : Bys wr (.slice ta tn tc) b := bys_same HBy3.out fun hb ad e => HOw.out.block _ (Nat.lt_of_lt_of_le (HTa.out hb ad e).1 (Nat.le_trans HB1'.out.size HO3.out.size)) fun hs => by
        have := (HOwn.out _ hs).2.1
        have := (HTa.out hb ad e).1
        omega
      have hcv := conv_bys hbyr
      obtain ⟨S, hS⟩ : ∃ S : ByteArray, S = ⟨b.toArray⟩ := ⟨_, rfl⟩
      rw [← hS] at hcv
      have HS := Lib.hid hS
      have hor : OnlyS (fun k => U k ∨ k = y) W wr := ((OnlyS.of_below HB1'.out fun k hk _ => hk).then HO3.out fun k _ h => .inl h).then HOw.out fun k hk h => by
        have := (HOwn.out k h).2.1
        omega
      have hU3' : ∀ k, U' k → U k ∨ W.heap.size ≤ k := fun k hk => (HU3.out k hk).imp id fun h => Nat.le_trans HB1'.out.size h.1
      have HU3' := Lib.hid hU3'
      have HOr := Lib.hid hor
      have HRr := Lib.hid hrun
      clear hrun hbyr hll hS hor hU3'
      go_upto_region 8 with fail
      clear hcv
      obtain ⟨W5, hW5⟩ : ∃ W5, W5 = wr.alloc (.cells #[.string S, .bool true] 59) := ⟨_, rfl⟩
      obtain ⟨b0, hb0⟩ : ∃ b0, b0 = wr.heap.size := ⟨_, rfl⟩
      have hbox : Blk W5 b0 59 #[.string S, .bool true] := by rw [hW5, hb0]; exact Blk.new wr _ _
      have hb5 : Below wr.heap.size wr W5 := by rw [hW5]; exact (Below.refl _ wr).alloc (Nat.le_refl _) _
      have HBox := Lib.hid hbox
      have HR5 := Lib.hid (HRr.out.below hb5)
      have HO5 := Lib.hid (HOr.out.trans (OnlyS.of_below hb5 fun k hk _ => hk))
      rw [← hW5, ← hb0]
      clear hW5 hb0 hbox hb5
      have kB2 : W5.cell? ⟨B, 2, none⟩ = some (.pointer (some ⟨y, 0, none⟩)) := by rw [HR5.out.run.cell]; rfl
      have ky4 : W5.cell? ⟨y, 4, none⟩ = some (.bool false) := by rw [HR5.out.ref.cell]; rfl
      have HBB5 := Lib.hid HR5.out.run
      have HRf5 := Lib.hid HR5.out.ref
      have hG5 : ∀ W1 W' : World, Below W5.heap.size W5 W1 → Below W1.heap.size W1 W' → Below W5.heap.size W5 W' := fun W1 W' h h' => h.trans (h'.mono h.size)
      obtain ⟨h4, hl, rfl, rfl, rfl⟩ | ⟨h0, hl, rfl, rfl, hi2⟩ | ⟨h6, hl, rfl, rfl, hf2, hg2⟩ := HWays.out
      · subst h4
        have hlt : decide (32768 < (tn : Int)) = true := by have := HTn.out; simp; omega
        have HL := Lib.hid hl
        clear hl
        have e0 : ((4 : Nat) : Int) = 4 := rfl
        rw [e0]
        go_upto_region 11 with fail
        clear kB2 ky4 hlt e0
        refine region_by [(60, .is (.int .i64 4)), (61, .is (.bool true)), (62, .is (.bool true)), (63, .is (.pointer (some ⟨B, 0, none⟩))), (64, .is (.pointer (some ⟨B, 0, none⟩))), (65, .is (.pointer (some ⟨B, 1, none⟩))), (66, .is (.pointer (some ⟨z, 0, none⟩))), (67, .is (tv t')), (68, .is (.pointer (some ⟨B, 0, none⟩))), (69, .is (.pointer (some ⟨B, 0, none⟩))), (70, .is (.pointer (some ⟨B, 2, none⟩))), (71, .is (.pointer (some ⟨y, 0, none⟩))), (72, .is (.pointer (some ⟨y, 0, none⟩))), (73, .is (.pointer (some ⟨y, 0, none⟩))), (74, .is (tv t')), (75, .is (.bool true)), (76, .is (.bool true)), (4, .is (.bool true))] [4] (fun W => Below W5.heap.size W5 W) (by kernel_rfl) (by kernel_rfl) (by kernel_rfl) (by kernel_rfl) (by kernel_rfl) ((Below.refl _ _).drew) ?_ ?_
        · refine ⟨?c0, ?c1, ?c2, ?c3, ?c4, ?c5, ?c6, ?c7, ?c8, ?c9, ?c10, ?c11, ?c12, ?c13, ?c14, ?c15, ?c16, ?c17, trivial⟩
          case c0 => exact ask_copy (guard_none rfl) (.tmp 6) (.inl rfl) (by intro k hk; cases hk; rfl)
          case c1 => exact ask_exec (guard_none rfl) (.bool true) rfl rfl (by intro k hk; cases hk; rfl) (fun W hW => by kernel_rfl)
          case c2 => exact ask_copy (guard_none rfl) (.tmp 61) (.inl rfl) (by intro k hk; cases hk; rfl)
          case c3 => exact ask_copy (guard_some rfl rfl rfl) (.tmp 0) (.inl rfl) (by intro k hk; cases hk; rfl)
          case c4 => exact ask_exec (guard_some rfl rfl rfl) (.pointer (some ⟨B, 0, none⟩)) rfl rfl (by intro k hk; cases hk; rfl) (fun W hW => by kernel_rfl)
          case c5 => exact ask_field (guard_some rfl rfl rfl) _ (.tmp 64) 1 (.pointer (some ⟨B, 0, none⟩)) (.pointer (some ⟨B, 1, none⟩)) rfl rfl (by intro k hk; cases hk; rfl) (fun W => by kernel_rfl)
          case c6 => exact ask_load (guard_some rfl rfl rfl) _ (.tmp 65) (.pointer (some ⟨B, 1, none⟩)) (.pointer (some ⟨z, 0, none⟩)) rfl rfl (by intro k hk; cases hk; rfl) (fun W hW => load_vp W _ _ (by rw [hW.cell (p := ⟨B, 1, none⟩) HBB5.out.lt, HBB5.out.cell]; rfl))
          case c7 => exact ask_call hG5 (guard_some rfl rfl rfl) _ _ _ #[.pointer (some ⟨z, 0, none⟩)] (.is (tv t')) rfl (by kernel_rfl) rfl rfl (by intro k hk; cases hk; rfl) (fun W hW => (text_any (HR5.out.below hW).vault (HR5.out.below hW).sw).mono fun e w' h => by obtain ⟨h1, h2⟩ := h; exact ⟨_, h1, rfl, h2⟩)
          case c8 => exact ask_copy (guard_some rfl rfl rfl) (.tmp 0) (.inl rfl) (by intro k hk; cases hk; rfl)
          case c9 => exact ask_exec (guard_some rfl rfl rfl) (.pointer (some ⟨B, 0, none⟩)) rfl rfl (by intro k hk; cases hk; rfl) (fun W hW => by kernel_rfl)
          case c10 => exact ask_field (guard_some rfl rfl rfl) _ (.tmp 69) 2 (.pointer (some ⟨B, 0, none⟩)) (.pointer (some ⟨B, 2, none⟩)) rfl rfl (by intro k hk; cases hk; rfl) (fun W => by kernel_rfl)
          case c11 => exact ask_load (guard_some rfl rfl rfl) _ (.tmp 70) (.pointer (some ⟨B, 2, none⟩)) (.pointer (some ⟨y, 0, none⟩)) rfl rfl (by intro k hk; cases hk; rfl) (fun W hW => load_rp W _ _ (by rw [hW.cell (p := ⟨B, 2, none⟩) HBB5.out.lt, HBB5.out.cell]; rfl))
          case c12 => exact ask_exec (guard_some rfl rfl rfl) (.pointer (some ⟨y, 0, none⟩)) rfl rfl (by intro k hk; cases hk; rfl) (fun W hW => by kernel_rfl)
          case c13 => exact ask_field (guard_some rfl rfl rfl) _ (.tmp 72) 0 (.pointer (some ⟨y, 0, none⟩)) (.pointer (some ⟨y, 0, none⟩)) rfl rfl (by intro k hk; cases hk; rfl) (fun W => by kernel_rfl)
          case c14 => exact ask_load (guard_some rfl rfl rfl) _ (.tmp 73) (.pointer (some ⟨y, 0, none⟩)) (tv t') rfl rfl (by intro k hk; cases hk; rfl) (fun W hW => load_text (HRf5.out.keep hW) rfl rfl)
          case c15 => exact ask_bin (guard_some rfl rfl rfl) _ _ _ _ _ _ _ _ rfl rfl rfl (by intro k hk; cases hk; rfl) (fun W => eql_self _ _ _ W)
          case c16 => exact ask_pick (guard_none rfl) (.tmp 62) (.tmp 75) (.const (.bool false)) true rfl rfl (by intro k hk; cases hk; rfl)
          case c17 => exact ask_copy (guard_none rfl) (.tmp 76) (.inr rfl) (by intro k hk; cases hk; rfl)
        · intro af W6 hW hd' hs' hf'
          have t4 : af.tmps.getD 4 undef = .bool true := hf' 4 rfl
          obtain ⟨us, hus, haf⟩ := act_open 115 af hs' hd'
          rw [← hus] at t4
          have el : ((List.range 115).map us).toArray = #[us 0, us 1, us 2, us 3, us 4, us 5, us 6, us 7, us 8, us 9, us 10, us 11, us 12, us 13, us 14, us 15, us 16, us 17, us 18, us 19, us 20, us 21, us 22, us 23, us 24, us 25, us 26, us 27, us 28, us 29, us 30, us 31, us 32, us 33, us 34, us 35, us 36, us 37, us 38, us 39, us 40, us 41, us 42, us 43, us 44, us 45, us 46, us 47, us 48, us 49, us 50, us 51, us 52, us 53, us 54, us 55, us 56, us 57, us 58, us 59, us 60, us 61, us 62, us 63, us 64, us 65, us 66, us 67, us 68, us 69, us 70, us 71, us 72, us 73, us 74, us 75, us 76, us 77, us 78, us 79, us 80, us 81, us 82, us 83, us 84, us 85, us 86, us 87, us 88, us 89, us 90, us 91, us 92, us 93, us 94, us 95, us 96, us 97, us 98, us 99, us 100, us 101, us 102, us 103, us 104, us 105, us 106, us 107, us 108, us 109, us 110, us 111, us 112, us 113, us 114] := rfl
          rw [el] at haf
          subst haf
          rw [t4]
          have HB6 := Lib.hid hW
          clear hus t4 el hf' hs' hd' hW hG5
          go_wp2
          go_ret
          exact ⟨rfl, _, _, rfl, fun h => h, HU3'.out, HO5.out.trans (OnlyS.of_below HB6.out fun k hk _ => hk), .inl ⟨HL.out, rfl, HR5.out.below HB6.out⟩⟩
      · subst h0
        have hlt : decide (32768 < (tn : Int)) = false := by have := HTn.out; simp; omega
        have HL := Lib.hid hl
        have HI2 := Lib.hid hi2
        clear hi2 hl
        have e0 : ((0 : Nat) : Int) = 0 := rfl
        rw [e0]
        go_upto_region 15 with fail
        clear kB2 ky4 e0
        refine region_tails_by 5 [(80, .is (.pointer (some ⟨B, 0, none⟩))), (81, .is (.pointer (some ⟨B, 0, none⟩))), (82, .is (.pointer (some ⟨B, 2, none⟩))), (83, .is (.pointer (some ⟨y, 0, none⟩))), (84, .is (tv (some b)))] [0, 83, 84] (fun W => Below W5.heap.size W5 W) (by kernel_rfl) (by kernel_rfl) (by kernel_rfl) (by kernel_rfl) (by kernel_rfl) (by decide) (by kernel_rfl) (by kernel_rfl) ((Below.refl _ _).drew) ?_ ?_
        · refine ⟨?c0, ?c1, ?c2, ?c3, ?c4, trivial⟩
          case c0 => exact ask_copy (guard_none rfl) (.tmp 0) (.inl rfl) (by intro k hk; cases hk; rfl)
          case c1 => exact ask_exec (guard_none rfl) (.pointer (some ⟨B, 0, none⟩)) rfl rfl (by intro k hk; cases hk; rfl) (fun W hW => by kernel_rfl)
          case c2 => exact ask_field (guard_none rfl) _ (.tmp 81) 2 (.pointer (some ⟨B, 0, none⟩)) (.pointer (some ⟨B, 2, none⟩)) rfl rfl (by intro k hk; cases hk; rfl) (fun W => by kernel_rfl)
          case c3 => exact ask_load (guard_none rfl) _ (.tmp 82) (.pointer (some ⟨B, 2, none⟩)) (.pointer (some ⟨y, 0, none⟩)) rfl rfl (by intro k hk; cases hk; rfl) (fun W hW => load_rp W _ _ (by rw [hW.cell (p := ⟨B, 2, none⟩) HBB5.out.lt, HBB5.out.cell]; rfl))
          case c4 => exact ask_load (guard_none rfl) _ (.tmp 8) (.pointer (some ⟨b0, 0, none⟩)) (tv (some b)) rfl rfl (by intro k hk; cases hk; rfl) (fun W hW => load_text (t := some b) (HBox.out.keep hW) (by rw [HS.out]; rfl) rfl)
        · intro af W6 hW hd' hs' hf'
          have t0 : af.tmps.getD 0 undef = .pointer (some ⟨B, 0, none⟩) := hf' 0 rfl
          have t83 : af.tmps.getD 83 undef = .pointer (some ⟨y, 0, none⟩) := hf' 83 rfl
          have t84 : af.tmps.getD 84 undef = tv (some b) := hf' 84 rfl
          obtain ⟨us, hus, haf⟩ := act_open 115 af hs' hd'
          rw [← hus] at t0 t83 t84
          have el : ((List.range 115).map us).toArray = #[us 0, us 1, us 2, us 3, us 4, us 5, us 6, us 7, us 8, us 9, us 10, us 11, us 12, us 13, us 14, us 15, us 16, us 17, us 18, us 19, us 20, us 21, us 22, us 23, us 24, us 25, us 26, us 27, us 28, us 29, us 30, us 31, us 32, us 33, us 34, us 35, us 36, us 37, us 38, us 39, us 40, us 41, us 42, us 43, us 44, us 45, us 46, us 47, us 48, us 49, us 50, us 51, us 52, us 53, us 54, us 55, us 56, us 57, us 58, us 59, us 60, us 61, us 62, us 63, us 64, us 65, us 66, us 67, us 68, us 69, us 70, us 71, us 72, us 73, us 74, us 75, us 76, us 77, us 78, us 79, us 80, us 81, us 82, us 83, us 84, us 85, us 86, us 87, us 88, us 89, us 90, us 91, us 92, us 93, us 94, us 95, us 96, us 97, us 98, us 99, us 100, us 101, us 102, us 103, us 104, us 105, us 106, us 107, us 108, us 109, us 110, us 111, us 112, us 113, us 114] := rfl
          rw [el] at haf
          subst haf
          rw [t0, t83, t84]
          have HB6 := Lib.hid hW
          clear hus t0 t83 t84 el hf' hs' hd' hW hG5
          simp only [List.drop_succ_cons, List.drop_zero]
          have HR6 := Lib.hid (HR5.out.below HB6.out)
          have HTk := Lib.hid (took_any (t := some b) HR6.out.ref)
          go_wp2_with fail
          refine HTk.out.mono ?_
          rintro e w7 ⟨rfl, hrn⟩
          have HR7 : Hid (Run w0 B y d (c + 3) z x s' (some b) false ⟨some b, some b, false⟩ w7 U') := Lib.hid (HR6.out.refd hrn)
          have HO7 := Lib.hid ((HO5.out.trans (OnlyS.of_below HB6.out fun k hk _ => hk)).then hrn.2 fun k _ h => .inr h)
          have HBB7 := Lib.hid HR7.out.run
          have HRf7 := Lib.hid HR7.out.ref
          have hG7 : ∀ W1 W' : World, Below w7.heap.size w7 W1 → Below W1.heap.size W1 W' → Below w7.heap.size w7 W' := fun W1 W' h h' => h.trans (h'.mono h.size)
          clear hrn HTk
          go_upto_region 21 with fail
          refine region_by [(102, .is (.pointer (some ⟨B, 0, none⟩))), (103, .is (.pointer (some ⟨B, 0, none⟩))), (104, .is (.pointer (some ⟨B, 1, none⟩))), (105, .is (.pointer (some ⟨z, 0, none⟩))), (106, .is (tv (some b))), (107, .is (.pointer (some ⟨B, 0, none⟩))), (108, .is (.pointer (some ⟨B, 0, none⟩))), (109, .is (.pointer (some ⟨B, 2, none⟩))), (110, .is (.pointer (some ⟨y, 0, none⟩))), (111, .is (.pointer (some ⟨y, 0, none⟩))), (112, .is (.pointer (some ⟨y, 0, none⟩))), (113, .is (tv (some b))), (114, .is (.bool true)), (4, .is (.bool true))] [4] (fun W => Below w7.heap.size w7 W) (by kernel_rfl) (by kernel_rfl) (by kernel_rfl) (by kernel_rfl) (by kernel_rfl) ((Below.refl _ _).drew) ?_ ?_
          · refine ⟨?c0, ?c1, ?c2, ?c3, ?c4, ?c5, ?c6, ?c7, ?c8, ?c9, ?c10, ?c11, ?c12, ?c13, trivial⟩
            case c0 => exact ask_copy (guard_none rfl) (.tmp 0) (.inl rfl) (by intro k hk; cases hk; rfl)
            case c1 => exact ask_exec (guard_none rfl) (.pointer (some ⟨B, 0, none⟩)) rfl rfl (by intro k hk; cases hk; rfl) (fun W hW => by kernel_rfl)
            case c2 => exact ask_field (guard_none rfl) _ (.tmp 103) 1 (.pointer (some ⟨B, 0, none⟩)) (.pointer (some ⟨B, 1, none⟩)) rfl rfl (by intro k hk; cases hk; rfl) (fun W => by kernel_rfl)
            case c3 => exact ask_load (guard_none rfl) _ (.tmp 104) (.pointer (some ⟨B, 1, none⟩)) (.pointer (some ⟨z, 0, none⟩)) rfl rfl (by intro k hk; cases hk; rfl) (fun W hW => load_vp W _ _ (by rw [hW.cell (p := ⟨B, 1, none⟩) HBB7.out.lt, HBB7.out.cell]; rfl))
            case c4 => exact ask_call hG7 (guard_none rfl) _ _ _ #[.pointer (some ⟨z, 0, none⟩)] (.is (tv (some b))) rfl (by kernel_rfl) rfl rfl (by intro k hk; cases hk; rfl) (fun W hW => (text_any (HR7.out.below hW).vault (HR7.out.below hW).sw).mono fun e w' h => by obtain ⟨h1, h2⟩ := h; exact ⟨_, h1, rfl, h2⟩)
            case c5 => exact ask_copy (guard_none rfl) (.tmp 0) (.inl rfl) (by intro k hk; cases hk; rfl)
            case c6 => exact ask_exec (guard_none rfl) (.pointer (some ⟨B, 0, none⟩)) rfl rfl (by intro k hk; cases hk; rfl) (fun W hW => by kernel_rfl)
            case c7 => exact ask_field (guard_none rfl) _ (.tmp 108) 2 (.pointer (some ⟨B, 0, none⟩)) (.pointer (some ⟨B, 2, none⟩)) rfl rfl (by intro k hk; cases hk; rfl) (fun W => by kernel_rfl)
            case c8 => exact ask_load (guard_none rfl) _ (.tmp 109) (.pointer (some ⟨B, 2, none⟩)) (.pointer (some ⟨y, 0, none⟩)) rfl rfl (by intro k hk; cases hk; rfl) (fun W hW => load_rp W _ _ (by rw [hW.cell (p := ⟨B, 2, none⟩) HBB7.out.lt, HBB7.out.cell]; rfl))
            case c9 => exact ask_exec (guard_none rfl) (.pointer (some ⟨y, 0, none⟩)) rfl rfl (by intro k hk; cases hk; rfl) (fun W hW => by kernel_rfl)
            case c10 => exact ask_field (guard_none rfl) _ (.tmp 111) 0 (.pointer (some ⟨y, 0, none⟩)) (.pointer (some ⟨y, 0, none⟩)) rfl rfl (by intro k hk; cases hk; rfl) (fun W => by kernel_rfl)
            case c11 => exact ask_load (guard_none rfl) _ (.tmp 112) (.pointer (some ⟨y, 0, none⟩)) (tv (some b)) rfl rfl (by intro k hk; cases hk; rfl) (fun W hW => load_text (HRf7.out.keep hW) rfl rfl)
            case c12 => exact ask_bin (guard_none rfl) _ _ _ _ _ _ _ _ rfl rfl rfl (by intro k hk; cases hk; rfl) (fun W => eql_self _ _ _ W)
            case c13 => exact ask_copy (guard_none rfl) (.tmp 114) (.inr rfl) (by intro k hk; cases hk; rfl)
          · intro af W8 hW hd' hs' hf'
            have t4 : af.tmps.getD 4 undef = .bool true := hf' 4 rfl
            obtain ⟨us, hus, haf⟩ := act_open 115 af hs' hd'
            rw [← hus] at t4
            have el : ((List.range 115).map us).toArray = #[us 0, us 1, us 2, us 3, us 4, us 5, us 6, us 7, us 8, us 9, us 10, us 11, us 12, us 13, us 14, us 15, us 16, us 17, us 18, us 19, us 20, us 21, us 22, us 23, us 24, us 25, us 26, us 27, us 28, us 29, us 30, us 31, us 32, us 33, us 34, us 35, us 36, us 37, us 38, us 39, us 40, us 41, us 42, us 43, us 44, us 45, us 46, us 47, us 48, us 49, us 50, us 51, us 52, us 53, us 54, us 55, us 56, us 57, us 58, us 59, us 60, us 61, us 62, us 63, us 64, us 65, us 66, us 67, us 68, us 69, us 70, us 71, us 72, us 73, us 74, us 75, us 76, us 77, us 78, us 79, us 80, us 81, us 82, us 83, us 84, us 85, us 86, us 87, us 88, us 89, us 90, us 91, us 92, us 93, us 94, us 95, us 96, us 97, us 98, us 99, us 100, us 101, us 102, us 103, us 104, us 105, us 106, us 107, us 108, us 109, us 110, us 111, us 112, us 113, us 114] := rfl
            rw [el] at haf
            subst haf
            rw [t4]
            have HB8 := Lib.hid hW
            clear hus t4 el hf' hs' hd' hW hG7
            go_wp2
            go_ret
            exact ⟨rfl, s', _, HRoom.out, HCalm.out, HU3'.out, HO7.out.trans (OnlyS.of_below HB8.out fun k hk _ => hk), .inr (.inl ⟨HL.out, HI2.out, HR7.out.below HB8.out⟩)⟩
      · subst h6
        have hlt : decide (32768 < (tn : Int)) = false := by have := HTn.out; simp; omega
        have HL := Lib.hid hl
        have HG2 := Lib.hid hg2
        have HF2 := Lib.hid hf2
        clear hg2 hf2 hl
        have e0 : ((6 : Nat) : Int) = 6 := rfl
        rw [e0]
        have kB0 : W5.cell? ⟨B, 0, none⟩ = some (dp d) := by rw [HR5.out.run.cell]; rfl
        have hdn := isdown_any HR5.out.sw.disk
        rw [HG2.out.off] at hdn
        have HDn := Lib.hid hdn
        clear hdn
        go_wp2_with fail
        refine HDn.out.mono ?_
        rintro e W5' ⟨rfl, rfl⟩
        clear kB0 HDn
        go_upto_region 20 with fail
        clear kB2 ky4 e0
        refine region_tails_by 5 [(96, .is (.pointer (some ⟨B, 0, none⟩))), (97, .is (.pointer (some ⟨B, 0, none⟩))), (98, .is (.pointer (some ⟨B, 2, none⟩))), (99, .is (.pointer (some ⟨y, 0, none⟩))), (100, .is (tv (some b)))] [0, 99, 100] (fun W => Below W5.heap.size W5 W) (by kernel_rfl) (by kernel_rfl) (by kernel_rfl) (by kernel_rfl) (by kernel_rfl) (by decide) (by kernel_rfl) (by kernel_rfl) ((Below.refl _ _).drew) ?_ ?_
        · refine ⟨?c0, ?c1, ?c2, ?c3, ?c4, trivial⟩
          case c0 => exact ask_copy (guard_none rfl) (.tmp 0) (.inl rfl) (by intro k hk; cases hk; rfl)
          case c1 => exact ask_exec (guard_none rfl) (.pointer (some ⟨B, 0, none⟩)) rfl rfl (by intro k hk; cases hk; rfl) (fun W hW => by kernel_rfl)
          case c2 => exact ask_field (guard_none rfl) _ (.tmp 97) 2 (.pointer (some ⟨B, 0, none⟩)) (.pointer (some ⟨B, 2, none⟩)) rfl rfl (by intro k hk; cases hk; rfl) (fun W => by kernel_rfl)
          case c3 => exact ask_load (guard_none rfl) _ (.tmp 98) (.pointer (some ⟨B, 2, none⟩)) (.pointer (some ⟨y, 0, none⟩)) rfl rfl (by intro k hk; cases hk; rfl) (fun W hW => load_rp W _ _ (by rw [hW.cell (p := ⟨B, 2, none⟩) HBB5.out.lt, HBB5.out.cell]; rfl))
          case c4 => exact ask_load (guard_none rfl) _ (.tmp 8) (.pointer (some ⟨b0, 0, none⟩)) (tv (some b)) rfl rfl (by intro k hk; cases hk; rfl) (fun W hW => load_text (t := some b) (HBox.out.keep hW) (by rw [HS.out]; rfl) rfl)
        · intro af W6 hW hd' hs' hf'
          have t0 : af.tmps.getD 0 undef = .pointer (some ⟨B, 0, none⟩) := hf' 0 rfl
          have t99 : af.tmps.getD 99 undef = .pointer (some ⟨y, 0, none⟩) := hf' 99 rfl
          have t100 : af.tmps.getD 100 undef = tv (some b) := hf' 100 rfl
          obtain ⟨us, hus, haf⟩ := act_open 115 af hs' hd'
          rw [← hus] at t0 t99 t100
          have el : ((List.range 115).map us).toArray = #[us 0, us 1, us 2, us 3, us 4, us 5, us 6, us 7, us 8, us 9, us 10, us 11, us 12, us 13, us 14, us 15, us 16, us 17, us 18, us 19, us 20, us 21, us 22, us 23, us 24, us 25, us 26, us 27, us 28, us 29, us 30, us 31, us 32, us 33, us 34, us 35, us 36, us 37, us 38, us 39, us 40, us 41, us 42, us 43, us 44, us 45, us 46, us 47, us 48, us 49, us 50, us 51, us 52, us 53, us 54, us 55, us 56, us 57, us 58, us 59, us 60, us 61, us 62, us 63, us 64, us 65, us 66, us 67, us 68, us 69, us 70, us 71, us 72, us 73, us 74, us 75, us 76, us 77, us 78, us 79, us 80, us 81, us 82, us 83, us 84, us 85, us 86, us 87, us 88, us 89, us 90, us 91, us 92, us 93, us 94, us 95, us 96, us 97, us 98, us 99, us 100, us 101, us 102, us 103, us 104, us 105, us 106, us 107, us 108, us 109, us 110, us 111, us 112, us 113, us 114] := rfl
          rw [el] at haf
          subst haf
          rw [t0, t99, t100]
          have HB6 := Lib.hid hW
          clear hus t0 t99 t100 el hf' hs' hd' hW hG5
          simp only [List.drop_succ_cons, List.drop_zero]
          have HR6 := Lib.hid (HR5.out.below HB6.out)
          have HTk := Lib.hid (lost_any (t := some b) HR6.out.ref)
          go_wp2_with fail
          refine HTk.out.mono ?_
          rintro e w7 ⟨rfl, hrn⟩
          have HR7 : Hid (Run w0 B y d (c + 3) z x s' t' true ⟨t', some b, true⟩ w7 U') := Lib.hid (HR6.out.refd hrn)
          have HO7 := Lib.hid ((HO5.out.trans (OnlyS.of_below HB6.out fun k hk _ => hk)).then hrn.2 fun k _ h => .inr h)
          have HBB7 := Lib.hid HR7.out.run
          have HRf7 := Lib.hid HR7.out.ref
          have hG7 : ∀ W1 W' : World, Below w7.heap.size w7 W1 → Below W1.heap.size W1 W' → Below w7.heap.size w7 W' := fun W1 W' h h' => h.trans (h'.mono h.size)
          clear hrn HTk
          go_upto_region 21 with fail
          refine region_by [(102, .is (.pointer (some ⟨B, 0, none⟩))), (103, .is (.pointer (some ⟨B, 0, none⟩))), (104, .is (.pointer (some ⟨B, 1, none⟩))), (105, .is (.pointer (some ⟨z, 0, none⟩))), (106, .is (tv t')), (107, .is (.pointer (some ⟨B, 0, none⟩))), (108, .is (.pointer (some ⟨B, 0, none⟩))), (109, .is (.pointer (some ⟨B, 2, none⟩))), (110, .is (.pointer (some ⟨y, 0, none⟩))), (111, .is (.pointer (some ⟨y, 0, none⟩))), (112, .is (.pointer (some ⟨y, 0, none⟩))), (113, .is (tv t')), (114, .is (.bool true)), (4, .is (.bool true))] [4] (fun W => Below w7.heap.size w7 W) (by kernel_rfl) (by kernel_rfl) (by kernel_rfl) (by kernel_rfl) (by kernel_rfl) ((Below.refl _ _).drew) ?_ ?_
          · refine ⟨?c0, ?c1, ?c2, ?c3, ?c4, ?c5, ?c6, ?c7, ?c8, ?c9, ?c10, ?c11, ?c12, ?c13, trivial⟩
            case c0 => exact ask_copy (guard_none rfl) (.tmp 0) (.inl rfl) (by intro k hk; cases hk; rfl)
            case c1 => exact ask_exec (guard_none rfl) (.pointer (some ⟨B, 0, none⟩)) rfl rfl (by intro k hk; cases hk; rfl) (fun W hW => by kernel_rfl)
            case c2 => exact ask_field (guard_none rfl) _ (.tmp 103) 1 (.pointer (some ⟨B, 0, none⟩)) (.pointer (some ⟨B, 1, none⟩)) rfl rfl (by intro k hk; cases hk; rfl) (fun W => by kernel_rfl)
            case c3 => exact ask_load (guard_none rfl) _ (.tmp 104) (.pointer (some ⟨B, 1, none⟩)) (.pointer (some ⟨z, 0, none⟩)) rfl rfl (by intro k hk; cases hk; rfl) (fun W hW => load_vp W _ _ (by rw [hW.cell (p := ⟨B, 1, none⟩) HBB7.out.lt, HBB7.out.cell]; rfl))
            case c4 => exact ask_call hG7 (guard_none rfl) _ _ _ #[.pointer (some ⟨z, 0, none⟩)] (.is (tv t')) rfl (by kernel_rfl) rfl rfl (by intro k hk; cases hk; rfl) (fun W hW => (text_any (HR7.out.below hW).vault (HR7.out.below hW).sw).mono fun e w' h => by obtain ⟨h1, h2⟩ := h; exact ⟨_, h1, rfl, h2⟩)
            case c5 => exact ask_copy (guard_none rfl) (.tmp 0) (.inl rfl) (by intro k hk; cases hk; rfl)
            case c6 => exact ask_exec (guard_none rfl) (.pointer (some ⟨B, 0, none⟩)) rfl rfl (by intro k hk; cases hk; rfl) (fun W hW => by kernel_rfl)
            case c7 => exact ask_field (guard_none rfl) _ (.tmp 108) 2 (.pointer (some ⟨B, 0, none⟩)) (.pointer (some ⟨B, 2, none⟩)) rfl rfl (by intro k hk; cases hk; rfl) (fun W => by kernel_rfl)
            case c8 => exact ask_load (guard_none rfl) _ (.tmp 109) (.pointer (some ⟨B, 2, none⟩)) (.pointer (some ⟨y, 0, none⟩)) rfl rfl (by intro k hk; cases hk; rfl) (fun W hW => load_rp W _ _ (by rw [hW.cell (p := ⟨B, 2, none⟩) HBB7.out.lt, HBB7.out.cell]; rfl))
            case c9 => exact ask_exec (guard_none rfl) (.pointer (some ⟨y, 0, none⟩)) rfl rfl (by intro k hk; cases hk; rfl) (fun W hW => by kernel_rfl)
            case c10 => exact ask_field (guard_none rfl) _ (.tmp 111) 0 (.pointer (some ⟨y, 0, none⟩)) (.pointer (some ⟨y, 0, none⟩)) rfl rfl (by intro k hk; cases hk; rfl) (fun W => by kernel_rfl)
            case c11 => exact ask_load (guard_none rfl) _ (.tmp 112) (.pointer (some ⟨y, 0, none⟩)) (tv t') rfl rfl (by intro k hk; cases hk; rfl) (fun W hW => load_text (HRf7.out.keep hW) rfl rfl)
            case c12 => exact ask_bin (guard_none rfl) _ _ _ _ _ _ _ _ rfl rfl rfl (by intro k hk; cases hk; rfl) (fun W => eql_self _ _ _ W)
            case c13 => exact ask_copy (guard_none rfl) (.tmp 114) (.inr rfl) (by intro k hk; cases hk; rfl)
          · intro af W8 hW hd' hs' hf'
            have t4 : af.tmps.getD 4 undef = .bool true := hf' 4 rfl
            obtain ⟨us, hus, haf⟩ := act_open 115 af hs' hd'
            rw [← hus] at t4
            have el : ((List.range 115).map us).toArray = #[us 0, us 1, us 2, us 3, us 4, us 5, us 6, us 7, us 8, us 9, us 10, us 11, us 12, us 13, us 14, us 15, us 16, us 17, us 18, us 19, us 20, us 21, us 22, us 23, us 24, us 25, us 26, us 27, us 28, us 29, us 30, us 31, us 32, us 33, us 34, us 35, us 36, us 37, us 38, us 39, us 40, us 41, us 42, us 43, us 44, us 45, us 46, us 47, us 48, us 49, us 50, us 51, us 52, us 53, us 54, us 55, us 56, us 57, us 58, us 59, us 60, us 61, us 62, us 63, us 64, us 65, us 66, us 67, us 68, us 69, us 70, us 71, us 72, us 73, us 74, us 75, us 76, us 77, us 78, us 79, us 80, us 81, us 82, us 83, us 84, us 85, us 86, us 87, us 88, us 89, us 90, us 91, us 92, us 93, us 94, us 95, us 96, us 97, us 98, us 99, us 100, us 101, us 102, us 103, us 104, us 105, us 106, us 107, us 108, us 109, us 110, us 111, us 112, us 113, us 114] := rfl
            rw [el] at haf
            subst haf
            rw [t4]
            have HB8 := Lib.hid hW
            clear hus t4 el hf' hs' hd' hW hG7
            go_wp2
            go_ret
            exact ⟨rfl, s', _, HRoom.out, HCalm.out, HU3'.out, HO7.out.trans (OnlyS.of_below HB8.out fun k hk _ => hk), .inr (.inr ⟨HL.out, HF2.out, HG2.out, HR7.out.below HB8.out⟩)⟩
end Go.Proofs.Ytejmmjlmnfnacaa
