/- copied and awake. -/
import Derived.Test.YtleoiklcddkgdaaCmdRefGet
import Derived.Test.YtleoiklcddkgdaaCmdRefPut
import Derived.Lib.SlBytesConst
namespace Go.Proofs.Ytleoiklcddkgdaa
open Go.RowKit BinMath CmdMath

theorem one_uv (l : List Nat) : ∀ u ∈ l.map uv, u.oneCell' = true := by
  intro u hu
  obtain ⟨c, _, rfl⟩ := List.mem_map.1 hu
  rfl

theorem cells_nums {w : World} {ad : Addr} {l : List Nat} (hc : ∀ i (h : i < l.length), w.cell? (ad.add i) = some (.int .u64 (l[i] : Int))) : ∀ (j : Nat) (u : Value), (l.map uv)[j]? = some u → w.cell? (ad.add j) = some u := by
  intro j u h
  have hj : j < l.length := by have := (List.getElem?_eq_some_iff.1 h).1; simpa using this
  rw [hc j hj]
  simpa [hj, uv] using h

/-- append([]uint64{}, x...): nothing that was there is written. -/
theorem append_num_lit {w : World} {B g : Nat} {x : Value} {l : List Nat} (hB : B ≤ g) (hg : w.heap[g]? = some (.cells #[] 22 (0, 0))) (hx : Nums w x l) (hlen : l.length ≤ 17592186043904) :
    ∃ v' w', (Builtin.append_ #[24, 24] 24 #[.slice (some ⟨g, 0, none⟩) 0 0, x]).run Try.prog w = .ok v' w' ∧ NRow w' B v' l ∧ Below w.heap.size w w' := by
  obtain ⟨i0, hi, hz0, hz1, hz2⟩ := info_parts info_num
  have hlt : g < w.heap.size := (Array.getElem?_eq_some_iff.1 hg).1
  have hrow : w.ownsRow B 22 1 (.slice (some ⟨g, 0, none⟩) 0 0) 0 [] := ⟨rfl, .inr ⟨g, 0, #[], rfl, hB, hg, Nat.le_refl _, by unfold maxLen; omega, rfl, rfl⟩⟩
  rcases hx with ⟨rfl, rfl⟩ | ⟨ad, cap, rfl, -, hc⟩
  · exact ⟨_, w, run_append_owned_none (P := Try.prog) (w := w) B _ _ _ i0 1 Try.underlying24 hi _ 0 [] hrow, hrow, Below.refl _ _⟩
  · by_cases hl : l = []
    · subst hl
      have hr := run_append_room (P := Try.prog) w 24 24 22 i0 Try.underlying24 hi g 0 0 #[] hg ad 0 cap [] (by simp) (by simp) (by simp) (by omega) (by simp)
      refine ⟨_, _, hr, ?_, ⟨rfl, rfl, rfl, by simp, fun k hk => ?_⟩⟩
      · refine ⟨rfl, .inr ⟨g, 0, #[], rfl, hB, ?_, Nat.le_refl _, by unfold maxLen; omega, rfl, rfl⟩⟩
        simpa using setRow_heap w g #[] _ 22 _ hg
      · by_cases hkg : k = g
        · subst hkg
          rw [hg]
          simpa using setRow_heap w k #[] _ 22 _ hg
        · exact setRow_other w g k _ hkg
    · have hpos : 0 < l.length := List.length_pos_iff.2 hl
      have hr := run_append_grow (P := Try.prog) w 24 24 22 i0 (.int .u64 0) Try.underlying24 hi hz0 ⟨g, 0, none⟩ 0 0 [] (by simp) (by simp) ad l.length cap (l.map uv) (by simp [hz1]) (cells_nums hc) (by omega) (by omega) (growslice_fits (by omega) (by rw [hz2]; omega))
      refine ⟨_, _, hr, ?_, (Below.refl _ _).drew.alloc (Nat.le_refl _) _⟩
      have hge := grownCap_ge w (0 + l.length) 0 22
      have hge' := grownCap_ge w l.length 0 22
      have hle := grownCap_le_maxLen w (0 + l.length) 0 22 (by unfold maxLen; omega)
      refine ⟨by simp, .inr ⟨w.heap.size, _, _, by rw [Nat.zero_add], by omega, heap_alloc_new w.drew _, by omega, hle, ?_, ?_⟩⟩
      · simp [size_zeroCells]
        simp [Value.cells]
        omega
      · simp

set_option maxHeartbeats 4000000 in
theorem copied_any (e : Ent) (a b : Option Addr) (ca cb : Nat) (w : World) (he : Has w e a ca b cb) (hm8 : e.m.length ≤ 17592186043904) :
    Calls Try.prog 9 #[.agg (entC e a ca b cb)] w fun r w' => ∃ a' ca' b' cb', r = .returned (.agg (entC e a' ca' b' cb')) ∧ Has w' e a' ca' b' cb' ∧ Below w.heap.size w w' := by
  have HH := Lib.hid he
  have hdl := he.dl
  have hml := he.ml
  obtain ⟨t, k, c, s, d, m⟩ := e
  obtain ⟨nd, hnd⟩ : ∃ nd, nd = d.length := ⟨_, rfl⟩
  obtain ⟨nm, hnm⟩ : ∃ nm, nm = m.length := ⟨_, rfl⟩
  have HD := Lib.hid he.d
  have HM := Lib.hid he.m
  simp only [entC] at hm8 hdl hml ⊢
  rw [← hnd, ← hnm]
  have HND := Lib.hid hnd
  have HNM := Lib.hid hnm
  clear he hnd hnm
  go_enter Try.func9, Try.ntmps9
  go_upto_region 1 with fail
  obtain ⟨w1, hw1⟩ : ∃ w1, w1 = (w.alloc (.cells #[.int .u64 (t : Int), .int .i64 k, .int .u64 (c : Int), .int .u64 (s : Int), .slice a nd ca, .slice b nm cb] 26)).alloc (.cells zeroC 26) := ⟨_, rfl⟩
  have hb1 : Below w.heap.size w w1 := by rw [hw1]; exact ((Below.refl _ _).alloc (Nat.le_refl _) _).alloc (by simp) _
  have E1 : Blk w1 w.heap.size 26 #[.int .u64 (t : Int), .int .i64 k, .int .u64 (c : Int), .int .u64 (s : Int), .slice a nd ca, .slice b nm cb] := by rw [hw1]; exact (Blk.new w _ _).alloc _
  have E2 : Blk w1 (w.heap.size + 1) 26 zeroC := by
    rw [hw1]
    have := Blk.new (w.alloc (.cells #[.int .u64 (t : Int), .int .i64 k, .int .u64 (c : Int), .int .u64 (s : Int), .slice a nd ca, .slice b nm cb] 26)) 26 zeroC
    simpa using this
  refine world_cut (fun W => Below w.heap.size w W ∧ Blk W w.heap.size 26 #[.int .u64 (t : Int), .int .i64 k, .int .u64 (c : Int), .int .u64 (s : Int), .slice a nd ca, .slice b nm cb] ∧ Blk W (w.heap.size + 1) 26 zeroC) (by rw [hw1] at hb1 E1 E2; exact ⟨hb1, E1, E2⟩) ?_
  clear hb1 E1 E2 hw1 w1
  rintro w1 ⟨hb1, E1, E2⟩
  have hs1 : w.heap.size + 2 ≤ w1.heap.size := by have := E2.lt; omega
  have hl1 := (Below.refl w1.heap.size w1).alloc (Nat.le_refl _) (.cells #[] 5)
  have A1 := Lib.hid (append_lit (B := w1.heap.size) (Nat.le_refl _) (heap_alloc_new w1 (.cells #[] 5)) (show Bys _ (.slice a nd ca) d by rw [HND.out]; exact (HD.out.below (Nat.le_refl _) hb1).below (Nat.le_refl _) hl1) (by omega))
  have HB1 := Lib.hid hb1
  have HE1 := Lib.hid (E1.alloc (.cells #[] 5))
  have HE2 := Lib.hid (E2.alloc (.cells #[] 5))
  have HL1 := Lib.hid hl1
  have k4 : (w1.alloc (.cells #[] 5)).cell? ⟨w.heap.size, 4, none⟩ = some (.slice a nd ca) := by rw [HE1.out.cell]; rfl
  clear hb1 E1 E2 hl1
  go_upto_region 2 with (first | (at_builtin; refine wpList_append_by rfl _ _ 23 rfl _ _ rfl rfl _ A1.out ?_; rintro v2 w2 ⟨hr, hb⟩; (obtain ⟨a', ca', rfl⟩ := slice_of_row hr); (have HR2 := Lib.hid hr); (have F1 := Lib.hid (HE1.out.keep hb)); (have F2 := Lib.hid (HE2.out.keep hb)); (have HB2 := Lib.hid (HB1.out.trans ((HL1.out.trans (hb.mono (by rw [World.size_alloc]; omega))).mono (by omega)))); (have hs2 : w1.heap.size ≤ w2.heap.size := by have := hb.size; rw [World.size_alloc] at this; omega); clear hr hb) | (refine wpList_store_fld rfl 23 (.tmp 7) (.tmp 6) rfl w.heap.size 4 (.slice a' d.length ca') rfl rfl 26 _ #[.int .u64 (t : Int), .int .i64 k, .int .u64 (c : Int), .int .u64 (s : Int), .slice a' d.length ca', .slice b nm cb] F1.out (by simp) rfl (by kernel_rfl) rfl ?_; intro w3 hb hos; (have G1 := Lib.hid hb); (have G2 := Lib.hid (F2.out.onlyS hos (by omega))); (have HR3 := Lib.hid (row_wrote HR2.out F1.out hos)); (have HB3 := Lib.hid (below_two HB2.out hos (fun k hk e => by omega) (by omega))); (have hs3 : w1.heap.size ≤ w3.heap.size := Nat.le_trans hs2 hos.size); clear hb hos))
  clear k4
  have hl3 := (Below.refl w3.heap.size w3).alloc (Nat.le_refl _) (.cells #[] 22)
  have A3 := Lib.hid (append_num_lit (B := w3.heap.size) (Nat.le_refl _) (heap_alloc_new w3 (.cells #[] 22)) (show Nums _ (.slice b nm cb) m by rw [HNM.out]; exact (HM.out.below (Nat.le_refl _) HB3.out).below (Nat.le_refl _) hl3) (by omega))
  have HG1 := Lib.hid (G1.out.alloc (.cells #[] 22))
  have HG2 := Lib.hid (G2.out.alloc (.cells #[] 22))
  have HL3 := Lib.hid hl3
  have k5 : (w3.alloc (.cells #[] 22)).cell? ⟨w.heap.size, 5, none⟩ = some (.slice b nm cb) := by rw [HG1.out.cell]; rfl
  clear hl3
  go_wp2_with (first | (at_builtin; refine wpList_append_by rfl _ _ 24 rfl _ _ rfl rfl _ A3.out ?_; rintro v4 w4 ⟨hr, hb⟩; (obtain ⟨b', cb', rfl⟩ := hr.nums.shape); (have HR4 := Lib.hid hr); (have HD4 := Lib.hid (show Row w4 w1.heap.size (.slice a' d.length ca') d from ownsRow_keep (ownsRow_keep HR3.out HL3.out) hb)); (have I1 := Lib.hid (HG1.out.keep hb)); (have I2 := Lib.hid (HG2.out.keep hb)); (have HB4 := Lib.hid (HB3.out.trans ((HL3.out.trans (hb.mono (by rw [World.size_alloc]; omega))).mono (by omega)))); (have hs4 : w1.heap.size ≤ w4.heap.size := by have := hb.size; rw [World.size_alloc] at this; omega); clear hr hb) | (refine wpList_store_fld rfl 24 (.tmp 12) (.tmp 11) rfl w.heap.size 5 (.slice b' m.length cb') rfl rfl 26 _ (entC ⟨t, k, c, s, d, m⟩ a' ca' b' cb') I1.out (by simp) rfl (by kernel_rfl) rfl ?_; intro w5 hb hos; (have J1 := Lib.hid hb); (have J2 := Lib.hid (I2.out.onlyS hos (by omega))); (have HR5 := Lib.hid (nrow_wrote HR4.out I1.out hos)); (have HD5 := Lib.hid (row_wrote HD4.out I1.out hos)); (have HB5 := Lib.hid (below_two HB4.out hos (fun k hk e => by omega) (by omega))); (have hs5 : w1.heap.size ≤ w5.heap.size := Nat.le_trans hs4 hos.size); clear hb hos) | (refine wpList_load_by rfl 26 (.tmp 1) rfl _ _ rfl (J1.out.loads 26 _ Try.underlying26 rfl (entC_size _ _ _ _ _)) ?_) | (refine wpList_store_all rfl 26 (.tmp 2) (.tmp 13) rfl (w.heap.size + 1) (entC ⟨t, k, c, s, d, m⟩ a' ca' b' cb') rfl rfl 26 zeroC J2.out (entC_size _ _ _ _ _) rfl (by simp [entC, Value.oneCell']) ?_; intro w6 hb hos; (have HZ := Lib.hid hb); (have HR6 := Lib.hid (nrow_wrote HR5.out J2.out hos)); (have HD6 := Lib.hid (row_wrote HD5.out J2.out hos)); (have HB6 := Lib.hid (below_two HB5.out hos (fun k hk e => by omega) (by omega))); clear hb hos))
  exact bodyPost_ret (v := .agg (entC ⟨t, k, c, s, d, m⟩ a' ca' b' cb')) (results_cell_row rfl _ _ (w.heap.size + 1) 26 _ (0, 0) _ rfl HZ.out Try.underlying26 rfl (entC_size _ _ _ _ _)) rfl ⟨a', ca', b', cb', by rw [HND.out, HNM.out]; rfl, ⟨HH.out.ok, HD6.out.bys, HR6.out.nums, hdl, hml⟩, HB6.out⟩

theorem get_is {a : Option Addr} {len cap : Nat} {l : List UInt8} {x : Ent} {c : Nat} {w : World} (hr : getR l = (x, c)) (hx : Bys w (.slice a len cap) l) (hl : l.length ≤ 140737488351232) :
    Calls Try.prog 17 #[.slice a len cap] w fun e w' => ∃ a' ca b' cb, e = .returned (.tuple #[.agg (entC x a' ca b' cb), .int .i64 (c : Int)]) ∧ Mine w' w.heap.size x a' ca b' cb ∧ Below w.heap.size w w' := by
  have h := get_any a len cap l w hx hl
  unfold GetEnd at h
  rw [hr] at h
  exact h

theorem refget_is {a : Option Addr} {len cap : Nat} {l : List UInt8} {x : Ent} {c : Nat} {w : World} (hr : getR l = (x, c)) (hx : Bys w (.slice a len cap) l) (hl : l.length ≤ 140737488351232) (hlc : len ≤ cap) :
    Calls Try.prog 18 #[.slice a len cap] w fun e w' => ∃ a' ca b' cb, e = .returned (.tuple #[.agg (entC x a' ca b' cb), .int .i64 (c : Int)]) ∧ Mine w' w.heap.size x a' ca b' cb ∧ Below w.heap.size w w' := by
  have h := refget_any a len cap l w hx hl hlc
  unfold GetEnd at h
  rw [hr] at h
  exact h

theorem same_self (e : Ent) (a b a' b' : Option Addr) (ca cb ca' cb' : Nat) (w : World) (he : Has w e a ca b cb) (hf : Has w e a' ca' b' cb') :
    Calls Try.prog 19 #[.agg (entC e a ca b cb), .agg (entC e a' ca' b' cb')] w fun r w' => r = .returned (.bool true) ∧ Below w.heap.size w w' := by
  have h := same_any e e a b a' b' ca cb ca' cb' w he hf
  rwa [decide_eq_true (rfl : e = e)] at h

theorem refSame_self (e : Ent) (a b a' b' : Option Addr) (ca cb ca' cb' : Nat) (w : World) (he : Has w e a ca b cb) (hf : Has w e a' ca' b' cb') :
    Calls Try.prog 16 #[.agg (entC e a ca b cb), .agg (entC e a' ca' b' cb')] w fun r w' => r = .returned (.bool true) ∧ Below w.heap.size w w' := by
  have h := refSame_any e e a b a' b' ca cb ca' cb' w he hf
  rwa [decide_eq_true (rfl : e = e)] at h

theorem const_bys (W : World) (xs : Array Value) (l : List UInt8) (n c : Nat) (hn : l.length = n) (m : Nat × Nat) (hx : (l.map bv).toArray = xs) (g : Nat) (hg : g = W.heap.size) : Bys (W.alloc (.cells xs 5 m)) (.slice (some ⟨g, 0, none⟩) n c) l := by
  subst hx hg
  refine .inr ⟨_, c, by rw [hn], fun i hi => ?_⟩
  rw [addr_add, Nat.zero_add, World.cell?_alloc_mark]
  simp [hi]

/-- The entry that is awake's. -/
def wakeE : Ent := ⟨2, 2, 3, 0, [97], []⟩

set_option maxHeartbeats 4000000 in
theorem awake_any (w : World) : Calls Try.prog 8 #[] w fun e w' => e = .returned (.bool true) ∧ Below w.heap.size w w' := by
  have b1 : Below w.heap.size w (w.alloc (.cells #[.int .u8 97] 5 (1, 2))) := (Below.refl _ _).alloc (Nat.le_refl _) _
  have hH : Has (w.alloc (.cells #[.int .u8 97] 5 (1, 2))) wakeE (some ⟨w.heap.size, 0, none⟩) 1 none 0 :=
    ⟨⟨by decide, by decide, by decide, by decide, by decide, by simp [wakeE]⟩, const_bys w _ [97] 1 1 rfl _ rfl _ rfl, .inl ⟨rfl, rfl⟩, by decide, by decide⟩
  have hP := put_yes wakeE _ _ _ _ _ hH (by decide)
  have hl : putL wakeE = [1, 2, 2, 1, 3, 0, 1, 1, 97] := by decide
  rw [hl] at hP
  have HP := Lib.hid hP
  have HB := Lib.hid b1
  clear hP hl hH b1
  simp only [entC, wakeE] at HP
  have kc := fun (w : World) (C : Array Value) (n c : Nat) => Lib.run_convert_bytes_const (P := Try.prog) w 23 5 C n c Try.underlying23 Try.underlying5
  go_enter Try.func8, Try.ntmps8
  go_wp2_with fail
  refine HP.out.mono ?_
  rintro e w2 ⟨v, rfl, hr, hb⟩
  have hc := conv_bys hr.bys
  have HB2 := Lib.hid (HB.out.trans (hb.mono HB.out.size))
  have b3 : Below w2.heap.size w2 (w2.alloc (.cells #[.int .u64 1, .int .u64 3] 22)) := (Below.refl _ _).alloc (Nat.le_refl _) _
  have hN : Nums (w2.alloc (.cells #[.int .u64 1, .int .u64 3] 22)) (.slice (some ⟨w2.heap.size, 0, none⟩) 2 2) [1, 3] := by
    refine .inr ⟨_, 2, rfl, Nat.le_refl _, fun i hi => ?_⟩
    have h2 : i < 2 := hi
    rw [addr_add, Nat.zero_add]
    rcases i with _ | _ | i
    · simp [World.cell?_alloc_at]
    · simp [World.cell?_alloc_at]
    · omega
  have hM := members_any _ _ _ hN (by decide) (by intro x hx; simp at hx; omega)
  have hm : memOk [1, 3] = true := by decide
  rw [hm] at hM
  have HM := Lib.hid hM
  have HB3 := Lib.hid (HB2.out.trans (b3.mono HB2.out.size))
  clear hr hb b3 hN hM hm
  go_wp2_with fail
  refine HM.out.mono ?_
  rintro e w3 ⟨rfl, rfl⟩
  go_wp2
  go_ret
  exact ⟨rfl, HB3.out⟩

end Go.Proofs.Ytleoiklcddkgdaa
