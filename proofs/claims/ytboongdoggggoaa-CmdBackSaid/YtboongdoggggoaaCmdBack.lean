/- The law CmdBack, walked. -/
import Derived.Test.YtboongdoggggoaaCmdCopy
import Derived.Test.YtboongdoggggoaaFrame
namespace Go.Proofs.Ytboongdoggggoaa
set_option maxRecDepth 20000
open Go.RowKit BinMath CmdMath

theorem putL_len {e : Ent} (hok : e.Ok) (h : formed e = true) : (putL e).length ≤ 200 ∧ 0 < (putL e).length := by
  obtain ⟨t, k, c, s, d, m⟩ := e
  have h1 := numL_le t hok.t
  have h2 := numL_le c hok.c
  have h3 := numL_le s hok.s
  by_cases k1 : k = 1
  · subst k1; rw [putL_one]; simp only [List.length_append, List.length_cons, List.length_nil]; omega
  · by_cases k2 : k = 2
    · subst k2
      have h4 := formed_len h
      have h5 := numL_le d.length (by omega)
      rw [putL_two]
      simp only [rawL, List.flatten_cons, List.flatten_nil, List.length_append, List.length_cons, List.length_nil]
      omega
    · by_cases k3 : k = 3
      · subst k3
        have h4 := formed_mem h
        have h5 := numL_le m.length (by omega)
        have h6 := idsL_len m hok.m
        rw [putL_three]
        simp only [List.length_append, List.length_cons, List.length_nil]
        omega
      · rw [formed_none k1 k2 k3] at h
        cases h

set_option maxHeartbeats 4000000 in
set_option maxRecDepth 100000 in
theorem back_all (w : World) (e : Ent) (a b : Option Addr) (ca cb : Nat) (he : Has w e a ca b cb) (av : Option Addr) (len cap : Nat) (zs : List Int) (hz : IsRow .u8 w av len cap zs) (hs : cap * 1 ≤ 140737488351232) :
    Calls Try.prog 10 #[.agg (entC e a ca b cb), .slice av len cap] w fun e w' => e = .returned (.bool true) ∧ Below w.heap.size w w' := by
  obtain ⟨l, hlen, hv⟩ := hz.bys
  have hlc := hz.le
  have hll : l.length ≤ 140737488351232 := by omega
  obtain ⟨z, c, hxc⟩ : ∃ x c, getR l = (x, c) := ⟨_, _, rfl⟩
  have hcs := getR_cases l
  rw [hxc] at hcs
  have b1 : Below w.heap.size w (w.alloc (.cells (entC e a ca b cb) 87)) := (Below.refl _ _).alloc (Nat.le_refl _) _
  have E0 := Lib.hid (Blk.new w 87 (entC e a ca b cb))
  have HV := Lib.hid hv
  have HXC := Lib.hid hxc
  have HN5 := Lib.hid hlen.symm
  have HCs := Lib.hid hcs
  have HH0 := Lib.hid he
  have HB0 := Lib.hid b1
  have HLL := Lib.hid hll
  clear hv hz hs hxc hlen hcs he b1 hll
  cases hfe : formed e with
  | false =>
    have HF := Lib.hid hfe
    clear hfe
    go_enter Try.func10, Try.ntmps10
    go_wp2_with fail
    refine (awake_any _).mono ?_
    rintro r w1 ⟨rfl, hb1⟩
    have E1 := Lib.hid (E0.out.keep hb1)
    have HB1 := Lib.hid (HB0.out.trans (hb1.mono HB0.out.size))
    have HH1 := Lib.hid (HH0.out.below (Nat.le_refl _) HB1.out)
    clear hb1
    go_wp2_with (refine wpList_load_by rfl 87 (.tmp 2) rfl _ _ rfl (E1.out.loads 87 _ Try.underlying87 rfl (entC_size _ _ _ _ _)) ?_)
    refine (put_no e _ _ _ _ w1 HH1.out HF.out).mono ?_
    rintro r w2 ⟨rfl, hb⟩
    have E2 := Lib.hid (E1.out.keep hb)
    have HB2 := Lib.hid (HB1.out.trans (hb.mono HB1.out.size))
    have HH2 := Lib.hid (HH1.out.below (Nat.le_refl _) hb)
    clear hb
    go_wp2_with (refine wpList_load_by rfl 87 (.tmp 2) rfl _ _ rfl (E2.out.loads 87 _ Try.underlying87 rfl (entC_size _ _ _ _ _)) ?_)
    have HFo := Lib.hid (show Calls Try.prog 49 #[.agg (entC e a ca b cb)] w2 fun r w' => r = .returned (.bool false) ∧ Below w2.heap.size w2 w' from by have h := formed_any e _ _ _ _ w2 HH2.out; rwa [HF.out] at h)
    refine HFo.out.mono ?_
    rintro r w3 ⟨rfl, hb⟩
    have HB3 := Lib.hid (HB2.out.trans (hb.mono HB2.out.size))
    clear hb HFo
    go_wp2_with fail
    have HG := Lib.hid (get_is HXC.out (HV.out.below (Nat.le_refl _) HB3.out) HLL.out)
    refine HG.out.mono ?_
    rintro r wp ⟨ax, cax, bx, cbx, rfl, hm, hb⟩
    have HHp := Lib.hid hm.has
    have HBp := Lib.hid (HB3.out.trans (hb.mono HB3.out.size))
    clear hm hb HG
    by_cases hc : c = 0
    · subst hc
      have hcz : (((0 : Nat) : Int) != 0) = false := rfl
      obtain ⟨hzok, hzf, hzp⟩ : z.Ok ∧ formed z = true ∧ putL z = l := by
        rcases HCs.out with ⟨_, h⟩ | ⟨h, _⟩
        · exact h
        · exact absurd rfl h
      have HZf := Lib.hid hzf
      have HZp := Lib.hid hzp
      clear hzok hzf hzp
      go_wp2_with (first | (refine wpList_store_all rfl 87 (.tmp 9) (.tmp 43) rfl wp.heap.size (entC z ax cax bx cbx) rfl rfl 87 zeroC (Blk.new wp _ _) (entC_size _ _ _ _ _) rfl (by simp [entC, Value.oneCell']) ?_; intro wq hb hos; (have Eq := Lib.hid hb); (have hbb := below_two ((Below.refl wp.heap.size wp).alloc (Nat.le_refl _) (.cells zeroC 87)) hos (fun k hk e => by omega) (by rw [World.size_alloc]; omega)); (have HHq := Lib.hid (HHp.out.below (Nat.le_refl _) hbb)); (have HBq := Lib.hid (HBp.out.trans (hbb.mono HBp.out.size))); clear hb hos hbb) | (refine wpList_load_by rfl 87 (.tmp 9) rfl _ _ rfl (Eq.out.loads 87 _ Try.underlying87 rfl (entC_size _ _ _ _ _)) ?_))
      refine (put_yes z _ _ _ _ wq HHq.out HZf.out).mono ?_
      rintro r wr ⟨vq, rfl, hr, hb⟩
      rw [HZp.out] at hr
      have c1 := conv_bys hr.bys
      have HBr := Lib.hid (HBq.out.trans (hb.mono HBq.out.size))
      have c2 := conv_bys (HV.out.below (Nat.le_refl _) HBr.out)
      have Er := Lib.hid (Eq.out.keep hb)
      have HHr := Lib.hid (HHq.out.below (Nat.le_refl _) hb)
      have HFo := Lib.hid (show Calls Try.prog 49 #[.agg (entC z ax cax bx cbx)] wr fun r w' => r = .returned (.bool true) ∧ Below wr.heap.size wr w' from by have h := formed_any z _ _ _ _ wr HHr.out; rwa [HZf.out] at h)
      obtain ⟨X, hX⟩ : ∃ X : ByteArray, X = ⟨l.toArray⟩ := ⟨_, rfl⟩
      rw [← hX] at c1 c2
      clear hr hb hX
      go_wp2_with (refine wpList_load_guarded rfl 87 (.tmp 9) rfl _ _ rfl (Er.out.loads 87 _ Try.underlying87 rfl (entC_size _ _ _ _ _)) ?_)
      refine HFo.out.mono ?_
      rintro r ws ⟨rfl, hb⟩
      have HBs := Lib.hid (HBr.out.trans (hb.mono HBr.out.size))
      clear hb c1 c2
      go_wp2
      go_ret
      exact ⟨rfl, HBs.out⟩
    · have hcz : ((c : Int) != 0) = true := by simp; omega
      obtain rfl : z = Ent.zero := by
        rcases HCs.out with ⟨h, _⟩ | ⟨_, _, h⟩
        · exact absurd h hc
        · exact h
      go_wp2_with (first | (refine wpList_store_all rfl 87 (.tmp 9) (.tmp 43) rfl wp.heap.size (entC Ent.zero ax cax bx cbx) rfl rfl 87 zeroC (Blk.new wp _ _) (entC_size _ _ _ _ _) rfl (by simp [entC, Value.oneCell']) ?_; intro wq hb hos; (have Eq := Lib.hid hb); (have hbb := below_two ((Below.refl wp.heap.size wp).alloc (Nat.le_refl _) (.cells zeroC 87)) hos (fun k hk e => by omega) (by rw [World.size_alloc]; omega)); (have HHq := Lib.hid (HHp.out.below (Nat.le_refl _) hbb)); (have HBq := Lib.hid (HBp.out.trans (hbb.mono HBp.out.size))); clear hb hos hbb) | (refine wpList_load_by rfl 87 (.tmp 9) rfl _ _ rfl (Eq.out.loads 87 _ Try.underlying87 rfl (entC_size _ _ _ _ _)) ?_))
      refine (same_self Ent.zero _ _ none none _ _ 0 0 wq HHq.out (Has.zero wq)).mono ?_
      rintro r wr ⟨rfl, hb⟩
      have HBr := Lib.hid (HBq.out.trans (hb.mono HBq.out.size))
      clear hb
      go_wp2
      go_ret
      exact ⟨rfl, HBr.out⟩
  | true =>
    have HF := Lib.hid hfe
    have hpl := putL_len HH0.out.ok hfe
    clear hfe
    go_enter Try.func10, Try.ntmps10
    go_wp2_with fail
    refine (awake_any _).mono ?_
    rintro r w1 ⟨rfl, hb1⟩
    have E1 := Lib.hid (E0.out.keep hb1)
    have HB1 := Lib.hid (HB0.out.trans (hb1.mono HB0.out.size))
    have HH1 := Lib.hid (HH0.out.below (Nat.le_refl _) HB1.out)
    clear hb1
    go_wp2_with (refine wpList_load_by rfl 87 (.tmp 2) rfl _ _ rfl (E1.out.loads 87 _ Try.underlying87 rfl (entC_size _ _ _ _ _)) ?_)
    refine (put_yes e _ _ _ _ w1 HH1.out HF.out).mono ?_
    rintro r w2 ⟨vp, rfl, hr, hb⟩
    obtain ⟨ap, cp, rfl⟩ := slice_of_row hr
    have HR2 := Lib.hid hr
    have E2 := Lib.hid (E1.out.keep hb)
    have HB2 := Lib.hid (HB1.out.trans (hb.mono HB1.out.size))
    have HH2 := Lib.hid (HH1.out.below (Nat.le_refl _) hb)
    clear hb hr
    go_wp2_with (refine wpList_load_by rfl 87 (.tmp 2) rfl _ _ rfl (E2.out.loads 87 _ Try.underlying87 rfl (entC_size _ _ _ _ _)) ?_)
    have HFo := Lib.hid (show Calls Try.prog 49 #[.agg (entC e a ca b cb)] w2 fun r w' => r = .returned (.bool true) ∧ Below w2.heap.size w2 w' from by have h := formed_any e _ _ _ _ w2 HH2.out; rwa [HF.out] at h)
    refine HFo.out.mono ?_
    rintro r w3 ⟨rfl, hb⟩
    have E3 := Lib.hid (E2.out.keep hb)
    have HB3 := Lib.hid (HB2.out.trans (hb.mono HB2.out.size))
    have HH3 := Lib.hid (HH2.out.below (Nat.le_refl _) hb)
    have HGe := Lib.hid (get_is (getR_lay e HH0.out.ok HF.out) (HR2.out.bys.below (Nat.le_refl _) hb) (by omega))
    clear hb HFo hpl
    go_wp2_with fail
    refine HGe.out.mono ?_
    rintro r w4 ⟨ay, cay, by', cby, rfl, hm, hb⟩
    have HHy4 := Lib.hid hm.has
    have HB4 := Lib.hid (HB3.out.trans (hb.mono HB3.out.size))
    have HH4 := Lib.hid (HH3.out.below (Nat.le_refl _) hb)
    have E4 := Lib.hid (E3.out.keep hb)
    clear hm hb HGe
    go_wp2_with (first | (refine wpList_store_all rfl 87 (.tmp 7) (.tmp 30) rfl w4.heap.size (entC e ay cay by' cby) rfl rfl 87 zeroC (Blk.new w4 _ _) (entC_size _ _ _ _ _) rfl (by simp [entC, Value.oneCell']) ?_; intro w5 hb hos; (have EY := Lib.hid hb); (have hbb := below_two ((Below.refl w4.heap.size w4).alloc (Nat.le_refl _) (.cells zeroC 87)) hos (fun k hk e => by omega) (by rw [World.size_alloc]; omega)); (have HHy5 := Lib.hid (HHy4.out.below (Nat.le_refl _) hbb)); (have HB5 := Lib.hid (HB4.out.trans (hbb.mono HB4.out.size))); (have HH5 := Lib.hid (HH4.out.below (Nat.le_refl _) hbb)); (have E5 := Lib.hid (E4.out.keep hbb)); clear hb hos hbb) | (refine wpList_load_guarded rfl 87 (.tmp 2) rfl _ _ rfl (E5.out.loads 87 _ Try.underlying87 rfl (entC_size _ _ _ _ _)) ?_) | (refine wpList_load_guarded rfl 87 (.tmp 7) rfl _ _ rfl (EY.out.loads 87 _ Try.underlying87 rfl (entC_size _ _ _ _ _)) ?_))
    refine (same_self e _ _ _ _ _ _ _ _ w5 HH5.out HHy5.out).mono ?_
    rintro r w6 ⟨rfl, hb⟩
    have HB6 := Lib.hid (HB5.out.trans (hb.mono HB5.out.size))
    clear hb
    go_wp2_with fail
    have HG := Lib.hid (get_is HXC.out (HV.out.below (Nat.le_refl _) HB6.out) HLL.out)
    refine HG.out.mono ?_
    rintro r wp ⟨ax, cax, bx, cbx, rfl, hm, hb⟩
    have HHp := Lib.hid hm.has
    have HBp := Lib.hid (HB6.out.trans (hb.mono HB6.out.size))
    clear hm hb HG
    by_cases hc : c = 0
    · subst hc
      have hcz : (((0 : Nat) : Int) != 0) = false := rfl
      obtain ⟨hzok, hzf, hzp⟩ : z.Ok ∧ formed z = true ∧ putL z = l := by
        rcases HCs.out with ⟨_, h⟩ | ⟨h, _⟩
        · exact h
        · exact absurd rfl h
      have HZf := Lib.hid hzf
      have HZp := Lib.hid hzp
      clear hzok hzf hzp
      go_wp2_with (first | (refine wpList_store_all rfl 87 (.tmp 9) (.tmp 43) rfl wp.heap.size (entC z ax cax bx cbx) rfl rfl 87 zeroC (Blk.new wp _ _) (entC_size _ _ _ _ _) rfl (by simp [entC, Value.oneCell']) ?_; intro wq hb hos; (have Eq := Lib.hid hb); (have hbb := below_two ((Below.refl wp.heap.size wp).alloc (Nat.le_refl _) (.cells zeroC 87)) hos (fun k hk e => by omega) (by rw [World.size_alloc]; omega)); (have HHq := Lib.hid (HHp.out.below (Nat.le_refl _) hbb)); (have HBq := Lib.hid (HBp.out.trans (hbb.mono HBp.out.size))); clear hb hos hbb) | (refine wpList_load_by rfl 87 (.tmp 9) rfl _ _ rfl (Eq.out.loads 87 _ Try.underlying87 rfl (entC_size _ _ _ _ _)) ?_))
      refine (put_yes z _ _ _ _ wq HHq.out HZf.out).mono ?_
      rintro r wr ⟨vq, rfl, hr, hb⟩
      rw [HZp.out] at hr
      have c1 := conv_bys hr.bys
      have HBr := Lib.hid (HBq.out.trans (hb.mono HBq.out.size))
      have c2 := conv_bys (HV.out.below (Nat.le_refl _) HBr.out)
      have Er := Lib.hid (Eq.out.keep hb)
      have HHr := Lib.hid (HHq.out.below (Nat.le_refl _) hb)
      have HFo := Lib.hid (show Calls Try.prog 49 #[.agg (entC z ax cax bx cbx)] wr fun r w' => r = .returned (.bool true) ∧ Below wr.heap.size wr w' from by have h := formed_any z _ _ _ _ wr HHr.out; rwa [HZf.out] at h)
      obtain ⟨X, hX⟩ : ∃ X : ByteArray, X = ⟨l.toArray⟩ := ⟨_, rfl⟩
      rw [← hX] at c1 c2
      clear hr hb hX
      go_wp2_with (refine wpList_load_guarded rfl 87 (.tmp 9) rfl _ _ rfl (Er.out.loads 87 _ Try.underlying87 rfl (entC_size _ _ _ _ _)) ?_)
      refine HFo.out.mono ?_
      rintro r ws ⟨rfl, hb⟩
      have HBs := Lib.hid (HBr.out.trans (hb.mono HBr.out.size))
      clear hb c1 c2
      go_wp2
      go_ret
      exact ⟨rfl, HBs.out⟩
    · have hcz : ((c : Int) != 0) = true := by simp; omega
      obtain rfl : z = Ent.zero := by
        rcases HCs.out with ⟨h, _⟩ | ⟨_, _, h⟩
        · exact absurd h hc
        · exact h
      go_wp2_with (first | (refine wpList_store_all rfl 87 (.tmp 9) (.tmp 43) rfl wp.heap.size (entC Ent.zero ax cax bx cbx) rfl rfl 87 zeroC (Blk.new wp _ _) (entC_size _ _ _ _ _) rfl (by simp [entC, Value.oneCell']) ?_; intro wq hb hos; (have Eq := Lib.hid hb); (have hbb := below_two ((Below.refl wp.heap.size wp).alloc (Nat.le_refl _) (.cells zeroC 87)) hos (fun k hk e => by omega) (by rw [World.size_alloc]; omega)); (have HHq := Lib.hid (HHp.out.below (Nat.le_refl _) hbb)); (have HBq := Lib.hid (HBp.out.trans (hbb.mono HBp.out.size))); clear hb hos hbb) | (refine wpList_load_by rfl 87 (.tmp 9) rfl _ _ rfl (Eq.out.loads 87 _ Try.underlying87 rfl (entC_size _ _ _ _ _)) ?_))
      refine (same_self Ent.zero _ _ none none _ _ 0 0 wq HHq.out (Has.zero wq)).mono ?_
      rintro r wr ⟨rfl, hb⟩
      have HBr := Lib.hid (HBq.out.trans (hb.mono HBq.out.size))
      clear hb
      go_wp2
      go_ret
      exact ⟨rfl, HBr.out⟩

end Go.Proofs.Ytboongdoggggoaa
