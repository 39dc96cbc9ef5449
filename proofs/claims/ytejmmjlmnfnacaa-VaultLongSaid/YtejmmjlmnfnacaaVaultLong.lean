/- VaultLong: the walk. -/
import Derived.Test.YtejmmjlmnfnacaaVaultPlay
import Derived.Test.YtejmmjlmnfnacaaGuards
import Derived.Deep.Cut
import Derived.Deep.QuietTactic
import Derived.BigQuiet
namespace Go.Proofs.Ytejmmjlmnfnacaa
open Go.RowKit Go.Maps DiskMath SwapMath Reg

theorem made_zeros (n : Nat) : (madeCells (Value.int .u8 0).cells (n * 1)).toList = (List.replicate n (0 : UInt8)).map bv := by
  apply List.ext_getElem?
  intro i
  rw [Array.getElem?_toList]
  by_cases hi : i < n
  · rw [Array.getElem?_eq_getElem (by rw [size_madeCells]; omega)]
    simp [madeCells, hi, bv, Value.cells, Nat.mod_one]
  · rw [Array.getElem?_eq_none (by rw [size_madeCells]; omega), List.getElem?_eq_none (by simp; omega)]

theorem made_row {w : World} {B g n : Nat} (h : w.ownsRow B 5 1 (.slice (some ⟨g, 0, none⟩) n n) n (madeCells (Value.int .u8 0).cells (n * 1)).toList) : Row w B (.slice (some ⟨g, 0, none⟩) n n) (List.replicate n 0) := by
  unfold Row
  rw [List.length_replicate, ← made_zeros]
  exact h

theorem byte_place (x : Int) (L : Nat) (h0 : 0 < L) (hL : L ≤ 34374418432) : ∃ m : Nat, wrap64 ((IntKind.u64.wrap x).tmod (L : Int)) = (m : Int) ∧ m < L := by
  rw [IntKind.wrap_u64]
  have h0 : 0 ≤ x % 18446744073709551616 := Int.emod_nonneg _ (by decide)
  rw [Int.tmod_eq_emod_of_nonneg h0]
  have h1 : 0 ≤ (x % 18446744073709551616) % (L : Int) := Int.emod_nonneg _ (by omega)
  have h2 : (x % 18446744073709551616) % (L : Int) < (L : Int) := Int.emod_lt_of_pos _ (by omega)
  refine ⟨((x % 18446744073709551616) % (L : Int)).toNat, ?_, by omega⟩
  rw [IntWalk.wrap64_in _ ⟨by omega, by omega⟩, Int.toNat_of_nonneg h1]

theorem eql_str (s t : Operand) (l : List UInt8) (W : World) : (do eqGuard .eql 9 s t (nm l) (nm l); binOp .eql 9 (nm l) (nm l) : Sem Value).run Try.prog W = .ok (.bool true) W := by
  have u := Try.underlying9
  simp [eqGuard, go_sem, nm_str]

theorem eql_none (s t : Operand) (l : List UInt8) (hl : l ≠ []) (W : World) : (do eqGuard .eql 9 s t (nm []) (nm l); binOp .eql 9 (nm []) (nm l) : Sem Value).run Try.prog W = .ok (.bool false) W := by
  have u := Try.underlying9
  have h1 : (⟨([] : List UInt8).toArray⟩ : ByteArray) ≠ ⟨l.toArray⟩ := fun h => by
    cases l with
    | nil => exact hl rfl
    | cons a r =>
      have h2 := congrArg (fun b : ByteArray => b.data.size) h
      simp at h2
  simp [eqGuard, go_sem, nm_str]
  first | exact h1 | (intro h; exact h1 h) | (simpa using hl)

/-- A run that may be opened, and bytes beside it. -/
def Ready11 (w : World) (B y d : Nat) (t : Tx) (v : Value) (X : List UInt8) (g : Nat) (W : World) : Prop := ∃ p s V T, RunD w B y d 8 p s V W T ∧ Fresh qS [] s t ∧ (t = V.has ∨ t = V.may) ∧ Bys W v X ∧ ¬ T g ∧ g < W.heap.size

theorem Ready11.below {w W W' : World} {B y d : Nat} {t : Tx} {v : Value} {X : List UInt8} {g : Nat} (h : Ready11 w B y d t v X g W) (hb : Below W.heap.size W W') : Ready11 w B y d t v X g W' := by
  obtain ⟨p, s, V, T, h1, h2, h3, h4, h5, h6⟩ := h
  exact ⟨p, s, V, T, h1.below hb, h2, h3, h4.below (Nat.le_refl _) hb, h5, Nat.lt_of_lt_of_le h6 hb.size⟩

theorem leq_run (s t : Operand) (N : Nat) (v : Bool) (h : decide ((N : Int) ≤ 32768) = v) (W : World) : (do eqGuard .leq 3 s t (.int .i64 (N : Int)) (.int .i64 32768); binOp .leq 3 (.int .i64 (N : Int)) (.int .i64 32768) : Sem Value).run Try.prog W = .ok (.bool v) W := by
  have u := Try.underlying3
  subst h
  simp [eqGuard, go_sem]

/-- What is known behind the law's last open. -/
structure Told11 (w : World) (B y d : Nat) (t : Tx) (v : Value) (X : List UInt8) (W : World) : Prop where
  run : ∃ p, Blk W B 57 (runC d p y)
  ref : Blk W y 61 (rC ⟨t, t, false⟩)
  bys : Bys W v X
  bel : Below w.heap.size w W

theorem Told11.below {w W W' : World} {B y d : Nat} {t : Tx} {v : Value} {X : List UInt8} (h : Told11 w B y d t v X W) (hb : Below W.heap.size W W') : Told11 w B y d t v X W' := by
  obtain ⟨p, hp⟩ := h.run
  exact ⟨⟨p, hp.keep hb⟩, h.ref.keep hb, h.bys.below (Nat.le_refl _) hb, h.bel.trans (hb.mono h.bel.size)⟩

set_option maxHeartbeats 4000000 in
set_option maxRecDepth 100000 in
theorem vaultLong_any (mo : Int) (c : UInt8) (w : World) :
    Calls Try.prog 6 #[.int .i64 mo, .int .u8 (c.toNat : Int)] w fun e w' => e = .returned (.bool true) ∧ Below w.heap.size w w' := by
  obtain ⟨i0, hi, hz0, hz1, hz2⟩ := info_parts info_byte
  obtain ⟨cb, hcb⟩ : ∃ b : Nat, b = c.toNat := ⟨_, rfl⟩
  rw [← hcb]
  have hcb255 : cb ≤ 255 := by have := c.toNat_lt; omega
  have HCb := Lib.hid hcb
  obtain ⟨r, hr, hr5⟩ := byte_place mo 5 (by omega) (by omega)
  rw [Int.cast_ofNat_Int] at hr
  obtain ⟨N, hN⟩ : ∃ N : Nat, (32766 : Int) + (r : Int) = (N : Int) := ⟨32766 + r, by omega⟩
  have hN1 : 32766 ≤ N := by omega
  have hN2 : N ≤ 32770 := by omega
  have HN := Lib.hid hN
  clear hcb hN
  go_enter Try.func6, Try.ntmps6
  go_wp2_with fail
  refine (vawake_any w).mono ?_
  rintro e w1 ⟨rfl, hb1⟩
  have HB1 := Lib.hid hb1
  clear hb1
  go_wp2_with fail
  refine (begin_any HB1.out).mono ?_
  rintro e w2 ⟨B, y, d, z, x, U, rfl, hr2⟩
  have HPut := Lib.hid (rput_any (b := []) (ta := none) (tn := 0) (tc := 0) hr2 (fresh_new qS 1073741824).1 (by decide) (.inl ⟨rfl, rfl⟩) rfl (by omega) (fun h => absurd rfl h) (by omega))
  clear hr2
  go_wp2_with fail
  refine HPut.out.mono ?_
  rintro e w3 ⟨rfl, s3, U3, hroom, hcalm, -, -, hways⟩
  obtain ⟨hf3, hr3⟩ : Fresh qS [] s3 (some []) ∧ Run w B y d 4 z x s3 (some []) false ⟨some [], some [], false⟩ w3 U3 := by
    rcases hways with ⟨h, -, -⟩ | ⟨-, h1, h2⟩ | ⟨-, h, -⟩
    · exact absurd h (by decide)
    · exact ⟨h1, h2⟩
    · exact absurd rfl h
  have HF3 := Lib.hid hf3
  have HR3 := Lib.hid hr3
  have hroom3 : s3.room = 1073741824 := hroom
  have HRoom := Lib.hid hroom3
  have HCalm := Lib.hid (hcalm rfl)
  have k2 : w3.cell? ⟨B, 2, none⟩ = some (.pointer (some ⟨y, 0, none⟩)) := by rw [hr3.run.cell]; rfl
  have k1 : w3.cell? ⟨y, 1, none⟩ = some (.bool true) := by rw [hr3.ref.cell]; rfl
  clear hroom hcalm hways hf3 hr3 hroom3 HPut
  go_upto_region 6 with fail
  clear k1 k2
  go_upto_region 7 with (at_make; rw [HN.out]; clear hr; refine wpList_make_full _ rfl _ _ 50 rfl w3.heap.size 5 i0 (.int .u8 0) 1 Try.underlying50 hi hz0 hz1 _ _ _ _ N rfl rfl rfl rfl (by rw [hz2]; omega) (by unfold maxLen; omega) (Nat.le_refl _) ?_; intro w4 hown hgrow; (have HB4 := Lib.hid ((Below.refl _ w3).grown hgrow (Nat.le_refl _) (by simp))); (have HRow := Lib.hid (made_row hown)); clear hown hgrow)
  obtain ⟨hf, hhf⟩ : ∃ h : Nat, h = N / 2 := ⟨_, rfl⟩
  have hh1 : hf < N := by omega
  have hhN : (N : Int) / 2 = (hf : Int) := by omega
  have hhT : (N : Int).tdiv 2 = (hf : Int) := by rw [Int.tdiv_eq_ediv_of_nonneg (by omega)]; exact hhN
  obtain ⟨hcell, hfree⟩ := row_at HRow.out hf (by rw [List.length_replicate]; exact hh1)
  have hcell0 : w4.cell? ⟨w3.heap.size, hf, none⟩ = some (.int .u8 0) := by rw [hcell, List.getElem_replicate]; rfl
  have hset := row_set HRow.out hf c
  rw [show bv c = .int .u8 (cb : Int) by rw [bv, HCb.out]] at hset
  obtain ⟨X, hX⟩ : ∃ X, X = (List.replicate N (0 : UInt8)).set hf c := ⟨_, rfl⟩
  have hXl : X.length = N := by rw [hX, List.length_set, List.length_replicate]
  rw [← hX] at hset
  have HSet := Lib.hid hset
  have HXl := Lib.hid hXl
  clear hset hX hXl hhf hcell HRow
  go_upto_region 8 with fail
  clear hcell0 hfree hhN hhT
  obtain ⟨w5, hw5⟩ : ∃ w5, w5 = w4.setCell ⟨w3.heap.size, hf, none⟩ (.int .u8 (cb : Int)) := ⟨_, rfl⟩
  have hb5 : Below w3.heap.size w3 w5 := by rw [hw5]; exact HB4.out.setCell (Nat.le_refl _) _
  rw [← hw5] at HSet ⊢
  clear hw5
  obtain ⟨g, hg⟩ : ∃ g, g = w3.heap.size := ⟨_, rfl⟩
  rw [← hg] at HSet ⊢
  have hr5' := HR3.out.below hb5
  have hgU : ¬ U3 g := fun h => by have := HR3.out.sw.lt _ h; omega
  have hgB : g ≠ B := by have := HR3.out.run.lt; omega
  have hgy : g ≠ y := by have := HR3.out.ref.lt; omega
  have hg5 : g < w5.heap.size := (HSet.out.lt (k := g) rfl).2
  have HPut := Lib.hid (rput_any (b := X) (ta := some ⟨g, 0, none⟩) (tn := N) (tc := N) hr5' HF3.out.1 (by rw [HRoom.out]; decide) HSet.out.bys HXl.out (by omega) (fun _ ad e => by
    cases e
    exact ⟨hg5, hgU⟩) (by omega))
  have HGB := Lib.hid hgB
  have HGY := Lib.hid hgy
  have HGU := Lib.hid hgU
  have HG5 := Lib.hid hg5
  clear hb5 hg hr5' hgU hgB hgy hg5 HR3 HB4
  go_wp2_with fail
  refine HPut.out.mono ?_
  rintro e w6 ⟨rfl, s6, U6, hroom, hcalm, hU6, ho6, hways⟩
  have hby6 : Bys w6 (.slice (some ⟨g, 0, none⟩) N N) X := bys_same HSet.out.bys fun _ ad e => by
    cases e
    exact ho6.block g HG5.out fun h => h.elim HGU.out HGY.out
  have hgU6 : ¬ U6 g := fun h => (hU6 g h).elim HGU.out fun h => by have := HG5.out; omega
  have hg6 : g < w6.heap.size := Nat.lt_of_lt_of_le HG5.out ho6.size
  have HBy6 := Lib.hid hby6
  have HGU6 := Lib.hid hgU6
  have HG6 := Lib.hid hg6
  clear hroom hcalm hU6 ho6 hby6 hgU6 hg6 HPut HSet
  obtain ⟨hl, rfl, hr6⟩ | ⟨hl, hf6, hr6⟩ | ⟨-, hf6, -, -⟩ := hways
  · have hf6 : Fresh qS [] s6 (some []) := HF3.out
    have hlN : 32768 < N := by have := HXl.out; omega
    have k0 : w6.cell? ⟨B, 0, none⟩ = some (dp d) := by rw [hr6.run.cell]; rfl
    have HCr := Lib.hid (run_crash2 hr6.base (ka := none) (nk := 0) (ck := 0) (ks := []) 0 ⟨none, 0, rfl, fun i b h => by simp at h⟩ rfl (by omega))
    have HF7 := Lib.hid (hf6.1.crash [] 0)
    clear hr6 hf6 hl
    go_wp2_with fail
    refine HCr.out.mono ?_
    rintro e w7 ⟨rfl, hr7, ho7⟩
    have hby7 : Bys w7 (.slice (some ⟨g, 0, none⟩) N N) X := bys_same HBy6.out fun _ ad e => by
      cases e
      exact ho7.block g HG6.out HGU6.out
    have hgU7 : ¬ more w6 U6 w7 g := more_not HGU6.out HG6.out
    have hg7 : g < w7.heap.size := Nat.lt_of_lt_of_le HG6.out ho7.size
    have hr7' := hr7.tight (c' := 8) (by have := HF7.out.1.counts; omega) (by omega)
    have HR7 := Lib.hid hr7'
    have HBy7 := Lib.hid hby7
    have HGU7 := Lib.hid hgU7
    have HG7 := Lib.hid hg7
    have HRd : Hid (Ready11 w B y d (some []) (.slice (some ⟨g, 0, none⟩) N N) X g w7) := Lib.hid ⟨_, _, _, _, hr7', HF7.out, .inl rfl, hby7, hgU7, hg7⟩
    clear k0 hr7 hr7' ho7 hby7 hgU7 hg7 HCr
    have hQM : ∀ W W' : World, Told11 w B y d (some []) (.slice (some ⟨g, 0, none⟩) N N) X W → Below W.heap.size W W' → Told11 w B y d (some []) (.slice (some ⟨g, 0, none⟩) N N) X W' := fun W W' h hb => h.below hb
    go_upto_region 11 with fail
    have hle : decide ((N : Int) ≤ 32768) = false := by simp; omega
    have hX0 : X ≠ [] := fun h => by have := HXl.out; rw [h] at this; simp at this; omega
    refine region_late_by 19 _ _ rfl [(49, .is (.pointer (some ⟨B, 0, none⟩))), (50, SatF (.bool true) (fun W => Told11 w B y d (some []) (.slice (some ⟨g, 0, none⟩) N N) X W) hQM), (51, SatF (.bool true) (fun W => Told11 w B y d (some []) (.slice (some ⟨g, 0, none⟩) N N) X W) hQM), (52, .is (.pointer (some ⟨B, 0, none⟩))), (53, .is (.pointer (some ⟨B, 0, none⟩))), (54, .is (.pointer (some ⟨B, 2, none⟩))), (55, .is (.pointer (some ⟨y, 0, none⟩))), (56, .is (.pointer (some ⟨y, 0, none⟩))), (57, .is (.pointer (some ⟨y, 0, none⟩))), (58, .is (.pointer (some ⟨y, 0, none⟩))), (59, .is (nm [])), (60, .is (.slice (some ⟨g, 0, none⟩) N N)), (61, .is (nm X)), (62, .is (.bool false)), (63, .is (.slice (some ⟨g, 0, none⟩) N N)), (64, .is (.int .i64 (N : Int))), (65, .is (.bool false)), (66, .is (.bool true)), (67, SatF (.bool true) (fun W => Told11 w B y d (some []) (.slice (some ⟨g, 0, none⟩) N N) X W) hQM)] [67] (fun W => Ready11 w B y d (some []) (.slice (some ⟨g, 0, none⟩) N N) X g W) (by kernel_rfl) (by kernel_rfl) (by kernel_rfl) (by kernel_rfl) ?_ rfl rfl rfl (by kernel_rfl) (HRd.out.below ((Below.refl _ _).drew)) ?_ ?_
    · intro q fq hq
      by_cases hq4 : q = 49
      · subst hq4
        exact .inl (by kernel_rfl)
      · exact .inl (lookup_all 49 (by kernel_rfl) hq hq4)
    · refine ⟨?c0, ?c1, ?c2, ?c3, ?c4, ?c5, ?c6, ?c7, ?c8, ?c9, ?c10, ?c11, ?c12, ?c13, ?c14, ?c15, ?c16, ?c17, ?c18, trivial⟩
      case c0 => exact Asked.late (ask_copy (guard_none rfl) (.tmp 5) (.inl rfl) (by intro k hk; cases hk; rfl))
      case c1 => exact ask_step2 (guardw_none rfl) _ _ _ rfl (by kernel_rfl) (fun x W hW hk => by
          have e1 : x 49 = .pointer (some ⟨B, 0, none⟩) := hk 49 rfl
          obtain ⟨pq, sq, Vq, Tq, hrd, hfr, hV, hby, hgT, hgl⟩ := hW
          show Calls _ _ #[x 49, .slice none 0 0, .int .i64 0] W _
          rw [e1]
          exact (ropen_any hrd hfr hV (ka := none) (nk := 0) (ck := 0) (ks := []) 0 ⟨none, 0, rfl, fun i b h => by simp at h⟩ rfl (by omega)).mono fun e W' h => by
            obtain ⟨h1, s', z', x', U', -, -, hf', hrun, ho, hUT⟩ := h
            have htold : Told11 w B y d (some []) (.slice (some ⟨g, 0, none⟩) N N) X W' := ⟨⟨_, hrun.run⟩, hrun.ref, bys_same hby fun _ ad e => by
              cases e
              exact ho.block g hgl fun h => h.elim hgT fun h => h.elim HGB.out HGY.out, hrun.bel⟩
            exact ⟨_, h1, ⟨_, s', _, U', hrun.base.tight (by have := hf'.1.counts; omega) (by omega), hf', .inl rfl, htold.bys, fun h => (hUT g h).elim hgT fun h => by omega, Nat.lt_of_lt_of_le hgl ho.size⟩, (fun k hk => by cases hk; exact ⟨rfl, htold⟩), facts_go2 ⟨fun _ => trivial, fun _ => satf_goes (hQ := hQM) (fun _ => htold), fun _ => satf_goes (hQ := hQM) (fun _ => htold), fun _ => trivial, fun _ => trivial, fun _ => trivial, fun _ => trivial, fun _ => trivial, fun _ => trivial, fun _ => trivial, fun _ => trivial, fun _ => trivial, fun _ => trivial, fun _ => trivial, fun _ => trivial, fun _ => trivial, fun _ => trivial, fun _ => trivial, fun _ => satf_goes (hQ := hQM) (fun _ => htold), trivial⟩⟩)
      case c2 => exact Asked.late (ask_copy (guard_none rfl) (.tmp 50) (.inl rfl) (by intro k hk; cases hk; rfl))
      case c3 => exact Asked.late (askw_copy (guardw_some rfl rfl (fun v W h => (show v = .bool true ∧ Told11 w B y d (some []) (.slice (some ⟨g, 0, none⟩) N N) X W from h).1)) (.tmp 5) (.inl rfl) (by intro k hk; cases hk; rfl))
      case c4 => exact Asked.late (askw_exec (guardw_some rfl rfl (fun v W h => (show v = .bool true ∧ Told11 w B y d (some []) (.slice (some ⟨g, 0, none⟩) N N) X W from h).1)) (.pointer (some ⟨B, 0, none⟩)) rfl rfl (by intro k hk; cases hk; rfl) (fun W hW => by kernel_rfl))
      case c5 => exact Asked.late (askw_field (guardw_some rfl rfl (fun v W h => (show v = .bool true ∧ Told11 w B y d (some []) (.slice (some ⟨g, 0, none⟩) N N) X W from h).1)) _ (.tmp 53) 2 (.pointer (some ⟨B, 0, none⟩)) (.pointer (some ⟨B, 2, none⟩)) rfl rfl (by intro k hk; cases hk; rfl) (fun W => by kernel_rfl))
      case c6 => exact Asked.late (ask_still (guardw_some rfl rfl (fun v W h => (show v = .bool true ∧ Told11 w B y d (some []) (.slice (some ⟨g, 0, none⟩) N N) X W from h).1)) (fun x W hW hk => by
          have e1 : x 54 = .pointer (some ⟨B, 2, none⟩) := hk 54 rfl
          have h51 : x 51 = .bool true ∧ Told11 w B y d (some []) (.slice (some ⟨g, 0, none⟩) N N) X W := hk 51 rfl
          obtain ⟨pq, hrn⟩ := h51.2.run
          have hl := load_rp W ⟨B, 2, none⟩ (.pointer (some ⟨y, 0, none⟩)) (by rw [hrn.cell]; rfl)
          exact ⟨.pointer (some ⟨y, 0, none⟩), by simp only [execOp, evalBy, e1, Sem.run_bind, hl, Result.andThen_ok, Sem.run_pure], fun k h => by cases h; rfl⟩))
      case c7 => exact Asked.late (askw_exec (guardw_some rfl rfl (fun v W h => (show v = .bool true ∧ Told11 w B y d (some []) (.slice (some ⟨g, 0, none⟩) N N) X W from h).1)) (.pointer (some ⟨y, 0, none⟩)) rfl rfl (by intro k hk; cases hk; rfl) (fun W hW => by kernel_rfl))
      case c8 => exact Asked.late (askw_field (guardw_some rfl rfl (fun v W h => (show v = .bool true ∧ Told11 w B y d (some []) (.slice (some ⟨g, 0, none⟩) N N) X W from h).1)) _ (.tmp 56) 0 (.pointer (some ⟨y, 0, none⟩)) (.pointer (some ⟨y, 0, none⟩)) rfl rfl (by intro k hk; cases hk; rfl) (fun W => by kernel_rfl))
      case c9 => exact Asked.late (askw_field (guardw_some rfl rfl (fun v W h => (show v = .bool true ∧ Told11 w B y d (some []) (.slice (some ⟨g, 0, none⟩) N N) X W from h).1)) _ (.tmp 57) 0 (.pointer (some ⟨y, 0, none⟩)) (.pointer (some ⟨y, 0, none⟩)) rfl rfl (by intro k hk; cases hk; rfl) (fun W => by kernel_rfl))
      case c10 => exact Asked.late (ask_still (guardw_some rfl rfl (fun v W h => (show v = .bool true ∧ Told11 w B y d (some []) (.slice (some ⟨g, 0, none⟩) N N) X W from h).1)) (fun x W hW hk => by
          have e1 : x 58 = .pointer (some ⟨y, 0, none⟩) := hk 58 rfl
          have h51 : x 51 = .bool true ∧ Told11 w B y d (some []) (.slice (some ⟨g, 0, none⟩) N N) X W := hk 51 rfl
          have hl := load_str W ⟨y, 0, none⟩ (nm []) (by rw [h51.2.ref.cell]; rfl)
          exact ⟨nm [], by simp only [execOp, evalBy, e1, Sem.run_bind, hl, Result.andThen_ok, Sem.run_pure], fun k h => by cases h; rfl⟩))
      case c11 => exact Asked.late (askw_copy (guardw_some rfl rfl (fun v W h => (show v = .bool true ∧ Told11 w B y d (some []) (.slice (some ⟨g, 0, none⟩) N N) X W from h).1)) (.tmp 6) (.inl rfl) (by intro k hk; cases hk; rfl))
      case c12 => exact Asked.late (ask_still (guardw_some rfl rfl (fun v W h => (show v = .bool true ∧ Told11 w B y d (some []) (.slice (some ⟨g, 0, none⟩) N N) X W from h).1)) (fun x W hW hk => by
          have e1 : x 60 = .slice (some ⟨g, 0, none⟩) N N := hk 60 rfl
          have h51 : x 51 = .bool true ∧ Told11 w B y d (some []) (.slice (some ⟨g, 0, none⟩) N N) X W := hk 51 rfl
          have hcv := conv_bys h51.2.bys
          exact ⟨nm X, by simp only [execOp, evalBy, e1, Sem.run_bind, hcv, Result.andThen_ok, Sem.run_pure]; rfl, fun k h => by cases h; rfl⟩))
      case c13 => exact Asked.late (askw_bin (guardw_some rfl rfl (fun v W h => (show v = .bool true ∧ Told11 w B y d (some []) (.slice (some ⟨g, 0, none⟩) N N) X W from h).1)) _ _ _ _ _ _ _ _ rfl rfl rfl (by intro k hk; cases hk; rfl) (fun W => eql_none _ _ X hX0 W))
      case c14 => exact Asked.late (askw_copy (guardw_some rfl rfl (fun v W h => (show v = .bool true ∧ Told11 w B y d (some []) (.slice (some ⟨g, 0, none⟩) N N) X W from h).1)) (.tmp 6) (.inl rfl) (by intro k hk; cases hk; rfl))
      case c15 => exact Asked.late (askw_exec (guardw_some rfl rfl (fun v W h => (show v = .bool true ∧ Told11 w B y d (some []) (.slice (some ⟨g, 0, none⟩) N N) X W from h).1)) (.int .i64 (N : Int)) rfl rfl (by intro k hk; cases hk; rfl) (fun W hW => by kernel_rfl))
      case c16 => exact Asked.late (askw_bin (guardw_some rfl rfl (fun v W h => (show v = .bool true ∧ Told11 w B y d (some []) (.slice (some ⟨g, 0, none⟩) N N) X W from h).1)) _ _ _ _ _ _ _ _ rfl rfl rfl (by intro k hk; cases hk; rfl) (fun W => leq_run _ _ N false hle W))
      case c17 => exact Asked.late (askw_exec (guardw_some rfl rfl (fun v W h => (show v = .bool true ∧ Told11 w B y d (some []) (.slice (some ⟨g, 0, none⟩) N N) X W from h).1)) (.bool true) rfl rfl (by intro k hk; cases hk; rfl) (fun W hW => by kernel_rfl))
      case c18 => exact Asked.late (ask_still (guardw_none rfl) (fun x W hW hk => by
          have h1 : x 51 = .bool true ∧ Told11 w B y d (some []) (.slice (some ⟨g, 0, none⟩) N N) X W := hk 51 rfl
          have h2 : x 66 = .bool true := hk 66 rfl
          exact ⟨.bool true, by simp [execOp, evalBy, h1.1, h2, asBool], fun k h => by cases h; exact ⟨rfl, h1.2⟩⟩))
    · intro af w8 hW hd' hs' hf'
      have t67 : (af.tmps.getD 67 undef) = .bool true ∧ Told11 w B y d (some []) (.slice (some ⟨g, 0, none⟩) N N) X w8 := hf' 67 rfl
      obtain ⟨us, hus, haf⟩ := act_open 68 af hs' hd'
      rw [← hus] at t67
      have el : ((List.range 68).map us).toArray = #[us 0, us 1, us 2, us 3, us 4, us 5, us 6, us 7, us 8, us 9, us 10, us 11, us 12, us 13, us 14, us 15, us 16, us 17, us 18, us 19, us 20, us 21, us 22, us 23, us 24, us 25, us 26, us 27, us 28, us 29, us 30, us 31, us 32, us 33, us 34, us 35, us 36, us 37, us 38, us 39, us 40, us 41, us 42, us 43, us 44, us 45, us 46, us 47, us 48, us 49, us 50, us 51, us 52, us 53, us 54, us 55, us 56, us 57, us 58, us 59, us 60, us 61, us 62, us 63, us 64, us 65, us 66, us 67] := rfl
      rw [el] at haf
      subst haf
      have H67 := Lib.hid t67
      clear hus t67 el hf' hs' hd' hW
      rw [H67.out.1]
      go_wp2
      go_ret
      exact ⟨rfl, H67.out.2.bel⟩
  · have hlN : N ≤ 32768 := by have := HXl.out; omega
    have k0 : w6.cell? ⟨B, 0, none⟩ = some (dp d) := by rw [hr6.run.cell]; rfl
    have HCr := Lib.hid (run_crash2 hr6.base (ka := none) (nk := 0) (ck := 0) (ks := []) 0 ⟨none, 0, rfl, fun i b h => by simp at h⟩ rfl (by omega))
    have HF7 := Lib.hid (hf6.1.crash [] 0)
    clear hr6 hf6 hl
    go_wp2_with fail
    refine HCr.out.mono ?_
    rintro e w7 ⟨rfl, hr7, ho7⟩
    have hby7 : Bys w7 (.slice (some ⟨g, 0, none⟩) N N) X := bys_same HBy6.out fun _ ad e => by
      cases e
      exact ho7.block g HG6.out HGU6.out
    have hgU7 : ¬ more w6 U6 w7 g := more_not HGU6.out HG6.out
    have hg7 : g < w7.heap.size := Nat.lt_of_lt_of_le HG6.out ho7.size
    have hr7' := hr7.tight (c' := 8) (by have := HF7.out.1.counts; omega) (by omega)
    have HR7 := Lib.hid hr7'
    have HBy7 := Lib.hid hby7
    have HGU7 := Lib.hid hgU7
    have HG7 := Lib.hid hg7
    have HRd : Hid (Ready11 w B y d (some X) (.slice (some ⟨g, 0, none⟩) N N) X g w7) := Lib.hid ⟨_, _, _, _, hr7', HF7.out, .inl rfl, hby7, hgU7, hg7⟩
    clear k0 hr7 hr7' ho7 hby7 hgU7 hg7 HCr
    have hQM : ∀ W W' : World, Told11 w B y d (some X) (.slice (some ⟨g, 0, none⟩) N N) X W → Below W.heap.size W W' → Told11 w B y d (some X) (.slice (some ⟨g, 0, none⟩) N N) X W' := fun W W' h hb => h.below hb
    go_upto_region 11 with fail
    have hle : decide ((N : Int) ≤ 32768) = true := by simp; omega
    refine region_late_by 19 _ _ rfl [(49, .is (.pointer (some ⟨B, 0, none⟩))), (50, SatF (.bool true) (fun W => Told11 w B y d (some X) (.slice (some ⟨g, 0, none⟩) N N) X W) hQM), (51, SatF (.bool true) (fun W => Told11 w B y d (some X) (.slice (some ⟨g, 0, none⟩) N N) X W) hQM), (52, .is (.pointer (some ⟨B, 0, none⟩))), (53, .is (.pointer (some ⟨B, 0, none⟩))), (54, .is (.pointer (some ⟨B, 2, none⟩))), (55, .is (.pointer (some ⟨y, 0, none⟩))), (56, .is (.pointer (some ⟨y, 0, none⟩))), (57, .is (.pointer (some ⟨y, 0, none⟩))), (58, .is (.pointer (some ⟨y, 0, none⟩))), (59, .is (nm X)), (60, .is (.slice (some ⟨g, 0, none⟩) N N)), (61, .is (nm X)), (62, .is (.bool true)), (63, .is (.slice (some ⟨g, 0, none⟩) N N)), (64, .is (.int .i64 (N : Int))), (65, .is (.bool true)), (66, .is (.bool true)), (67, SatF (.bool true) (fun W => Told11 w B y d (some X) (.slice (some ⟨g, 0, none⟩) N N) X W) hQM)] [67] (fun W => Ready11 w B y d (some X) (.slice (some ⟨g, 0, none⟩) N N) X g W) (by kernel_rfl) (by kernel_rfl) (by kernel_rfl) (by kernel_rfl) ?_ rfl rfl rfl (by kernel_rfl) (HRd.out.below ((Below.refl _ _).drew)) ?_ ?_
    · intro q fq hq
      by_cases hq4 : q = 49
      · subst hq4
        exact .inl (by kernel_rfl)
      · exact .inl (lookup_all 49 (by kernel_rfl) hq hq4)
    · refine ⟨?c0, ?c1, ?c2, ?c3, ?c4, ?c5, ?c6, ?c7, ?c8, ?c9, ?c10, ?c11, ?c12, ?c13, ?c14, ?c15, ?c16, ?c17, ?c18, trivial⟩
      case c0 => exact Asked.late (ask_copy (guard_none rfl) (.tmp 5) (.inl rfl) (by intro k hk; cases hk; rfl))
      case c1 => exact ask_step2 (guardw_none rfl) _ _ _ rfl (by kernel_rfl) (fun x W hW hk => by
          have e1 : x 49 = .pointer (some ⟨B, 0, none⟩) := hk 49 rfl
          obtain ⟨pq, sq, Vq, Tq, hrd, hfr, hV, hby, hgT, hgl⟩ := hW
          show Calls _ _ #[x 49, .slice none 0 0, .int .i64 0] W _
          rw [e1]
          exact (ropen_any hrd hfr hV (ka := none) (nk := 0) (ck := 0) (ks := []) 0 ⟨none, 0, rfl, fun i b h => by simp at h⟩ rfl (by omega)).mono fun e W' h => by
            obtain ⟨h1, s', z', x', U', -, -, hf', hrun, ho, hUT⟩ := h
            have htold : Told11 w B y d (some X) (.slice (some ⟨g, 0, none⟩) N N) X W' := ⟨⟨_, hrun.run⟩, hrun.ref, bys_same hby fun _ ad e => by
              cases e
              exact ho.block g hgl fun h => h.elim hgT fun h => h.elim HGB.out HGY.out, hrun.bel⟩
            exact ⟨_, h1, ⟨_, s', _, U', hrun.base.tight (by have := hf'.1.counts; omega) (by omega), hf', .inl rfl, htold.bys, fun h => (hUT g h).elim hgT fun h => by omega, Nat.lt_of_lt_of_le hgl ho.size⟩, (fun k hk => by cases hk; exact ⟨rfl, htold⟩), facts_go2 ⟨fun _ => trivial, fun _ => satf_goes (hQ := hQM) (fun _ => htold), fun _ => satf_goes (hQ := hQM) (fun _ => htold), fun _ => trivial, fun _ => trivial, fun _ => trivial, fun _ => trivial, fun _ => trivial, fun _ => trivial, fun _ => trivial, fun _ => trivial, fun _ => trivial, fun _ => trivial, fun _ => trivial, fun _ => trivial, fun _ => trivial, fun _ => trivial, fun _ => trivial, fun _ => satf_goes (hQ := hQM) (fun _ => htold), trivial⟩⟩)
      case c2 => exact Asked.late (ask_copy (guard_none rfl) (.tmp 50) (.inl rfl) (by intro k hk; cases hk; rfl))
      case c3 => exact Asked.late (askw_copy (guardw_some rfl rfl (fun v W h => (show v = .bool true ∧ Told11 w B y d (some X) (.slice (some ⟨g, 0, none⟩) N N) X W from h).1)) (.tmp 5) (.inl rfl) (by intro k hk; cases hk; rfl))
      case c4 => exact Asked.late (askw_exec (guardw_some rfl rfl (fun v W h => (show v = .bool true ∧ Told11 w B y d (some X) (.slice (some ⟨g, 0, none⟩) N N) X W from h).1)) (.pointer (some ⟨B, 0, none⟩)) rfl rfl (by intro k hk; cases hk; rfl) (fun W hW => by kernel_rfl))
      case c5 => exact Asked.late (askw_field (guardw_some rfl rfl (fun v W h => (show v = .bool true ∧ Told11 w B y d (some X) (.slice (some ⟨g, 0, none⟩) N N) X W from h).1)) _ (.tmp 53) 2 (.pointer (some ⟨B, 0, none⟩)) (.pointer (some ⟨B, 2, none⟩)) rfl rfl (by intro k hk; cases hk; rfl) (fun W => by kernel_rfl))
      case c6 => exact Asked.late (ask_still (guardw_some rfl rfl (fun v W h => (show v = .bool true ∧ Told11 w B y d (some X) (.slice (some ⟨g, 0, none⟩) N N) X W from h).1)) (fun x W hW hk => by
          have e1 : x 54 = .pointer (some ⟨B, 2, none⟩) := hk 54 rfl
          have h51 : x 51 = .bool true ∧ Told11 w B y d (some X) (.slice (some ⟨g, 0, none⟩) N N) X W := hk 51 rfl
          obtain ⟨pq, hrn⟩ := h51.2.run
          have hl := load_rp W ⟨B, 2, none⟩ (.pointer (some ⟨y, 0, none⟩)) (by rw [hrn.cell]; rfl)
          exact ⟨.pointer (some ⟨y, 0, none⟩), by simp only [execOp, evalBy, e1, Sem.run_bind, hl, Result.andThen_ok, Sem.run_pure], fun k h => by cases h; rfl⟩))
      case c7 => exact Asked.late (askw_exec (guardw_some rfl rfl (fun v W h => (show v = .bool true ∧ Told11 w B y d (some X) (.slice (some ⟨g, 0, none⟩) N N) X W from h).1)) (.pointer (some ⟨y, 0, none⟩)) rfl rfl (by intro k hk; cases hk; rfl) (fun W hW => by kernel_rfl))
      case c8 => exact Asked.late (askw_field (guardw_some rfl rfl (fun v W h => (show v = .bool true ∧ Told11 w B y d (some X) (.slice (some ⟨g, 0, none⟩) N N) X W from h).1)) _ (.tmp 56) 0 (.pointer (some ⟨y, 0, none⟩)) (.pointer (some ⟨y, 0, none⟩)) rfl rfl (by intro k hk; cases hk; rfl) (fun W => by kernel_rfl))
      case c9 => exact Asked.late (askw_field (guardw_some rfl rfl (fun v W h => (show v = .bool true ∧ Told11 w B y d (some X) (.slice (some ⟨g, 0, none⟩) N N) X W from h).1)) _ (.tmp 57) 0 (.pointer (some ⟨y, 0, none⟩)) (.pointer (some ⟨y, 0, none⟩)) rfl rfl (by intro k hk; cases hk; rfl) (fun W => by kernel_rfl))
      case c10 => exact Asked.late (ask_still (guardw_some rfl rfl (fun v W h => (show v = .bool true ∧ Told11 w B y d (some X) (.slice (some ⟨g, 0, none⟩) N N) X W from h).1)) (fun x W hW hk => by
          have e1 : x 58 = .pointer (some ⟨y, 0, none⟩) := hk 58 rfl
          have h51 : x 51 = .bool true ∧ Told11 w B y d (some X) (.slice (some ⟨g, 0, none⟩) N N) X W := hk 51 rfl
          have hl := load_str W ⟨y, 0, none⟩ (nm X) (by rw [h51.2.ref.cell]; rfl)
          exact ⟨nm X, by simp only [execOp, evalBy, e1, Sem.run_bind, hl, Result.andThen_ok, Sem.run_pure], fun k h => by cases h; rfl⟩))
      case c11 => exact Asked.late (askw_copy (guardw_some rfl rfl (fun v W h => (show v = .bool true ∧ Told11 w B y d (some X) (.slice (some ⟨g, 0, none⟩) N N) X W from h).1)) (.tmp 6) (.inl rfl) (by intro k hk; cases hk; rfl))
      case c12 => exact Asked.late (ask_still (guardw_some rfl rfl (fun v W h => (show v = .bool true ∧ Told11 w B y d (some X) (.slice (some ⟨g, 0, none⟩) N N) X W from h).1)) (fun x W hW hk => by
          have e1 : x 60 = .slice (some ⟨g, 0, none⟩) N N := hk 60 rfl
          have h51 : x 51 = .bool true ∧ Told11 w B y d (some X) (.slice (some ⟨g, 0, none⟩) N N) X W := hk 51 rfl
          have hcv := conv_bys h51.2.bys
          exact ⟨nm X, by simp only [execOp, evalBy, e1, Sem.run_bind, hcv, Result.andThen_ok, Sem.run_pure]; rfl, fun k h => by cases h; rfl⟩))
      case c13 => exact Asked.late (askw_bin (guardw_some rfl rfl (fun v W h => (show v = .bool true ∧ Told11 w B y d (some X) (.slice (some ⟨g, 0, none⟩) N N) X W from h).1)) _ _ _ _ _ _ _ _ rfl rfl rfl (by intro k hk; cases hk; rfl) (fun W => eql_str _ _ X W))
      case c14 => exact Asked.late (askw_copy (guardw_some rfl rfl (fun v W h => (show v = .bool true ∧ Told11 w B y d (some X) (.slice (some ⟨g, 0, none⟩) N N) X W from h).1)) (.tmp 6) (.inl rfl) (by intro k hk; cases hk; rfl))
      case c15 => exact Asked.late (askw_exec (guardw_some rfl rfl (fun v W h => (show v = .bool true ∧ Told11 w B y d (some X) (.slice (some ⟨g, 0, none⟩) N N) X W from h).1)) (.int .i64 (N : Int)) rfl rfl (by intro k hk; cases hk; rfl) (fun W hW => by kernel_rfl))
      case c16 => exact Asked.late (askw_bin (guardw_some rfl rfl (fun v W h => (show v = .bool true ∧ Told11 w B y d (some X) (.slice (some ⟨g, 0, none⟩) N N) X W from h).1)) _ _ _ _ _ _ _ _ rfl rfl rfl (by intro k hk; cases hk; rfl) (fun W => leq_run _ _ N true hle W))
      case c17 => exact Asked.late (askw_exec (guardw_some rfl rfl (fun v W h => (show v = .bool true ∧ Told11 w B y d (some X) (.slice (some ⟨g, 0, none⟩) N N) X W from h).1)) (.bool true) rfl rfl (by intro k hk; cases hk; rfl) (fun W hW => by kernel_rfl))
      case c18 => exact Asked.late (ask_still (guardw_none rfl) (fun x W hW hk => by
          have h1 : x 51 = .bool true ∧ Told11 w B y d (some X) (.slice (some ⟨g, 0, none⟩) N N) X W := hk 51 rfl
          have h2 : x 66 = .bool true := hk 66 rfl
          exact ⟨.bool true, by simp [execOp, evalBy, h1.1, h2, asBool], fun k h => by cases h; exact ⟨rfl, h1.2⟩⟩))
    · intro af w8 hW hd' hs' hf'
      have t67 : (af.tmps.getD 67 undef) = .bool true ∧ Told11 w B y d (some X) (.slice (some ⟨g, 0, none⟩) N N) X w8 := hf' 67 rfl
      obtain ⟨us, hus, haf⟩ := act_open 68 af hs' hd'
      rw [← hus] at t67
      have el : ((List.range 68).map us).toArray = #[us 0, us 1, us 2, us 3, us 4, us 5, us 6, us 7, us 8, us 9, us 10, us 11, us 12, us 13, us 14, us 15, us 16, us 17, us 18, us 19, us 20, us 21, us 22, us 23, us 24, us 25, us 26, us 27, us 28, us 29, us 30, us 31, us 32, us 33, us 34, us 35, us 36, us 37, us 38, us 39, us 40, us 41, us 42, us 43, us 44, us 45, us 46, us 47, us 48, us 49, us 50, us 51, us 52, us 53, us 54, us 55, us 56, us 57, us 58, us 59, us 60, us 61, us 62, us 63, us 64, us 65, us 66, us 67] := rfl
      rw [el] at haf
      subst haf
      have H67 := Lib.hid t67
      clear hus t67 el hf' hs' hd' hW
      rw [H67.out.1]
      go_wp2
      go_ret
      exact ⟨rfl, H67.out.2.bel⟩
  · exact absurd HCalm.out hf6

theorem vaultLong_all (w : World) (mo : Int) (_ : (Lit.int .i64 mo).wf = true) (n : Int) (hn : (Lit.int .u8 n).wf = true) :
    Calls Try.prog 6 #[.int .i64 mo, .int .u8 n] w fun e w' => e = .returned (.bool true) ∧ Below w.heap.size w w' := by
  obtain ⟨l, hl⟩ := bytes_of [n] (fun m hm => by simp at hm; subst hm; exact hn)
  obtain ⟨c, rfl⟩ : ∃ c : UInt8, n = (c.toNat : Int) := by
    cases l with
    | nil => simp at hl
    | cons c r => simp at hl; exact ⟨c, hl.1⟩
  exact vaultLong_any mo c w
end Go.Proofs.Ytejmmjlmnfnacaa
