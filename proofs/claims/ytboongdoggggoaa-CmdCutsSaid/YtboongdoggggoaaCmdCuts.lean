/- The law CmdCuts, walked. -/
import Derived.Test.YtboongdoggggoaaCmdBack
import Derived.Deep.Cut
namespace Go.Proofs.Ytboongdoggggoaa
set_option maxRecDepth 20000
open Go.RowKit BinMath CmdMath

theorem mod_place (x : Int) (L : Nat) (h0 : 0 < L) (hL : L ≤ 200) : ∃ m : Nat, wrap64 ((IntKind.u64.wrap x).tmod (L : Int)) = (m : Int) ∧ m < L := by
  rw [IntKind.wrap_u64]
  have h0 : 0 ≤ x % 18446744073709551616 := Int.emod_nonneg _ (by decide)
  rw [Int.tmod_eq_emod_of_nonneg h0]
  have h1 : 0 ≤ (x % 18446744073709551616) % (L : Int) := Int.emod_nonneg _ (by omega)
  have h2 : (x % 18446744073709551616) % (L : Int) < (L : Int) := Int.emod_lt_of_pos _ (by omega)
  refine ⟨((x % 18446744073709551616) % (L : Int)).toNat, ?_, by omega⟩
  rw [IntWalk.wrap64_in _ ⟨by omega, by omega⟩, Int.toNat_of_nonneg h1]

set_option maxHeartbeats 4000000 in
set_option maxRecDepth 100000 in
theorem cuts_all (w : World) (e : Ent) (a b : Option Addr) (ca cb : Nat) (he : Has w e a ca b cb) (at_ : Int) (_ : (Lit.int .i64 at_).wf = true) (more : Int) (wm : (Lit.int .u8 more).wf = true) :
    Calls Try.prog 11 #[.agg (entC e a ca b cb), .int .i64 at_, .int .u8 more] w fun e w' => e = .returned (.bool true) ∧ Below w.heap.size w w' := by
  obtain ⟨mb, rfl⟩ : ∃ mb : UInt8, more = (mb.toNat : Int) := by
    have := bounds_u8 wm
    refine ⟨UInt8.ofNat more.toNat, ?_⟩
    simp
    omega
  have b1 : Below w.heap.size w (w.alloc (.cells (entC e a ca b cb) 87)) := (Below.refl _ _).alloc (Nat.le_refl _) _
  have E0 := Lib.hid (Blk.new w 87 (entC e a ca b cb))
  have HH0 := Lib.hid he
  have HB0 := Lib.hid b1
  clear he b1 wm
  cases hfe : formed e with
  | false =>
    have HF := Lib.hid hfe
    clear hfe
    go_enter Try.func11, Try.ntmps11
    go_wp2_with fail
    refine (awake_any _).mono ?_
    rintro r w1 ⟨rfl, hb1⟩
    have E1 := Lib.hid (E0.out.keep hb1)
    have HB1 := Lib.hid (HB0.out.trans (hb1.mono HB0.out.size))
    have HH1 := Lib.hid (HH0.out.below (Nat.le_refl _) HB1.out)
    clear hb1
    go_wp2_with (refine wpList_load_by rfl 87 (.tmp 3) rfl _ _ rfl (E1.out.loads 87 _ Try.underlying87 rfl (entC_size _ _ _ _ _)) ?_)
    refine (put_no e _ _ _ _ w1 HH1.out HF.out).mono ?_
    rintro r w2 ⟨rfl, hb⟩
    have HB2 := Lib.hid (HB1.out.trans (hb.mono HB1.out.size))
    clear hb
    go_wp2
    go_ret
    exact ⟨rfl, HB2.out⟩
  | true =>
    obtain ⟨hpl, hp0⟩ := putL_len HH0.out.ok hfe
    have hcut := fun n => getR_cut e HH0.out.ok hfe n
    have hmore := fun y => getR_more e HH0.out.ok hfe y []
    have HF := Lib.hid hfe
    obtain ⟨P, hP⟩ : ∃ P, P = putL e := ⟨_, rfl⟩
    rw [← hP] at hpl hp0 hcut hmore
    obtain ⟨n, hn⟩ : ∃ n, n = P.length := ⟨_, rfl⟩
    rw [← hn] at hpl hp0 hcut
    obtain ⟨m, hm, hmn⟩ := mod_place at_ n hp0 hpl
    have HCut := Lib.hid (hcut m hmn)
    have HMore := Lib.hid (hmore mb)
    have HP := Lib.hid hP
    have HN := Lib.hid hn
    have hn0 : ((n : Int) == 0) = false := beq_false_of_ne (by omega)
    clear hfe hcut hmore hP hn
    go_enter Try.func11, Try.ntmps11
    go_wp2_with fail
    refine (awake_any _).mono ?_
    rintro r w1 ⟨rfl, hb1⟩
    have E1 := Lib.hid (E0.out.keep hb1)
    have HB1 := Lib.hid (HB0.out.trans (hb1.mono HB0.out.size))
    have HH1 := Lib.hid (HH0.out.below (Nat.le_refl _) HB1.out)
    clear hb1
    go_wp2_with (refine wpList_load_by rfl 87 (.tmp 3) rfl _ _ rfl (E1.out.loads 87 _ Try.underlying87 rfl (entC_size _ _ _ _ _)) ?_)
    refine (put_yes e _ _ _ _ w1 HH1.out HF.out).mono ?_
    rintro r w2 ⟨vp, rfl, hr, hb⟩
    rw [← HP.out] at hr
    obtain ⟨ap, cp, rfl⟩ : ∃ a c, vp = .slice a n c := by rw [HN.out]; exact slice_of_row hr
    have hcp : n ≤ cp := by
      rcases hr.2 with ⟨h, h0⟩ | ⟨g, cc, cur, h, _, _, hnc, _⟩
      · have := HN.out; omega
      · cases h; have := HN.out; omega
    have hsl := fun W => slice_to ap n cp m (by omega) W
    have HR2 := Lib.hid hr
    have HB2 := Lib.hid (HB1.out.trans (hb.mono HB1.out.size))
    have HG := Lib.hid (get_is (a := ap) (len := m) (cap := cp) HCut.out (hr.bys.take m (by rw [← HN.out]; omega)) (by rw [List.length_take]; omega))
    clear hb hr
    go_wp2_with fail
    refine HG.out.mono ?_
    rintro r w3 ⟨ax, cax, bx, cbx, rfl, -, hb⟩
    have HB3 := Lib.hid (HB2.out.trans (hb.mono HB2.out.size))
    have HR3 := Lib.hid (HR2.out.bys.below (Nat.le_refl _) hb)
    clear hb HG hm hsl
    go_upto_region 7 with (refine wpList_store_all rfl 87 (.tmp 9) (.tmp 40) rfl w3.heap.size (entC Ent.zero ax cax bx cbx) rfl rfl 87 zeroC (Blk.new w3 _ _) (entC_size _ _ _ _ _) rfl (by simp [entC, Value.oneCell']) ?_; intro w4 hb hos; (have EX := Lib.hid hb); (have hbb := below_two ((Below.refl w3.heap.size w3).alloc (Nat.le_refl _) (.cells zeroC 87)) hos (fun k hk e => by omega) (by rw [World.size_alloc]; omega)); (have HHr4 := Lib.hid (HR3.out.below (Nat.le_refl _) hbb)); (have HB4 := Lib.hid (HB3.out.trans (hbb.mono HB3.out.size))); clear hb hos hbb)
    have A1 := Lib.hid (append_lit (B := w4.heap.size) (g := w4.heap.size) (w := w4.alloc (.cells #[] 5)) (Nat.le_refl _) (heap_alloc_new w4 _) (HHr4.out.below (Nat.le_refl _) ((Below.refl _ w4).alloc (Nat.le_refl _) _)) (by rw [← HN.out]; omega))
    go_wp2_with (first | (at_builtin; refine wpList_append_by rfl (.tmp 43) (.tmp 44) 22 rfl _ _ rfl rfl _ A1.out ?_; rintro v5 w5 ⟨hr, hb⟩; (have hb5 := (((Below.refl w4.heap.size w4).alloc (Nat.le_refl _) (.cells #[] 5)).trans (hb.mono (by rw [World.size_alloc]; omega)))); (have HB5 := Lib.hid (HB4.out.trans (hb5.mono HB4.out.size))); (have hs45 : w4.heap.size ≤ w5.heap.size := hb5.size); (have HR5 := Lib.hid hr); (have A2 := Lib.hid (append_bys (B := w4.heap.size) (by rw [World.size_alloc]; omega) (hr.below ((Below.refl _ w5).alloc (Nat.le_refl _) (.cells #[bv mb] 5))) (byte_bys w5 mb) (by rw [← HN.out]; simp only [List.length_cons, List.length_nil]; omega))); clear hr hb hb5) | (at_builtin; refine wpList_append_by rfl (.tmp 45) (.tmp 47) 22 rfl _ _ rfl rfl _ A2.out ?_; rintro v6 w6 ⟨hr, hgr⟩; (obtain ⟨a6, c6, rfl⟩ : ∃ a c, v6 = .slice a (n + 1) c := by have h := slice_of_row hr; rw [List.length_append, ← HN.out] at h; exact h); (have HB6 := Lib.hid ((HB5.out.alloc HB5.out.size (.cells #[bv mb] 5)).grown hgr (by rw [World.size_alloc]; have := HB5.out.size; omega) fun k hk => Nat.le_trans HB4.out.size (World.ownsRow.lt HR5.out k hk).1)); (have HG6 := Lib.hid (get_is HMore.out hr.bys (by rw [List.length_append, ← HN.out]; simp only [List.length_cons, List.length_nil]; omega))); clear hr hgr))
    refine HG6.out.mono ?_
    rintro r w7 ⟨ay, cay, by', cby, rfl, -, hb⟩
    have HB7 := Lib.hid (HB6.out.trans (hb.mono HB6.out.size))
    clear hb HG6
    go_wp2_with (refine wpList_store_all rfl 87 (.tmp 11) (.tmp 50) rfl w7.heap.size (entC Ent.zero ay cay by' cby) rfl rfl 87 zeroC (Blk.new w7 _ _) (entC_size _ _ _ _ _) rfl (by simp [entC, Value.oneCell']) ?_; intro w8 hb hos; (have EY := Lib.hid hb); (have hbb := below_two ((Below.refl w7.heap.size w7).alloc (Nat.le_refl _) (.cells zeroC 87)) hos (fun k hk e => by omega) (by rw [World.size_alloc]; omega)); (have HB8 := Lib.hid (HB7.out.trans (hbb.mono HB7.out.size))); clear hb hos hbb)
    go_ret
    exact ⟨rfl, HB8.out⟩

end Go.Proofs.Ytboongdoggggoaa
