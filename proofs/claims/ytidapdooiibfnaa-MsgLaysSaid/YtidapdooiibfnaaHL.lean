/- Layer 18: lists of entries, held against one another by slices.EqualFunc. -/
import Derived.Test.YtidapdooiibfnaaHK
namespace Go.Proofs.Ytidapdooiibfnaa
set_option maxRecDepth 20000
open Go.RowKit BinMath CmdMath

set_option maxHeartbeats 2000000 in
theorem equalFunc_any (va vb : Value) (us vs : List EE) (w : World) (ha : Els w va us) (hb : Els w vb vs) (hha : HasAll w us) (hhb : HasAll w vs) (hl : us.length ≤ 140737488351232) :
    Calls Try.prog 41 #[va, vb, .func (.func 42) #[] #[]] w fun r w' => r = .returned (.bool (decide (us.map EE.e = vs.map EE.e))) ∧ Below w.heap.size w w' := by
  obtain ⟨a, ca, rfl⟩ := ha.form
  obtain ⟨b, cb, rfl⟩ := hb.form
  obtain ⟨n, hn⟩ : ∃ n, n = us.length := ⟨_, rfl⟩
  by_cases hlen : us.length = vs.length
  · have hm : n = vs.length := by omega
    rw [← hn] at ha hl
    rw [← hm] at hb
    rw [← hn, ← hm]
    have HA := Lib.hid ha
    have HB := Lib.hid hb
    have HHA := Lib.hid hha
    have HHB := Lib.hid hhb
    have HN := Lib.hid hn
    have HM := Lib.hid hm
    have HStart := Lib.hid (show ListAt us vs w (.int .i64 0) w from ⟨0, Nat.zero_le _, rfl, rfl, Below.refl _ _⟩)
    clear ha hb hha hhb hn hm hlen
    go_enter Try.func41, Try.ntmps41
    go_wp2
    go_loopw [17] (fun s17 wr => ListAt us vs w s17 wr) (fun s17 _ => n - (intOf s17).toNat)
    case atStart => exact HStart.out
    case round =>
      obtain ⟨i, hi, rfl, he, hbw⟩ := hrel
      have hin : i ≤ n := by have := HN.out; omega
      have HBw := Lib.hid hbw
      have HE := Lib.hid he
      clear hi he hbw HStart
      by_cases hlt : i < n
      · obtain ⟨x, hx⟩ : ∃ x, us[i]? = some x := ⟨us[i]'(by have := HN.out; omega), List.getElem?_eq_getElem _⟩
        obtain ⟨y, hy⟩ : ∃ y, vs[i]? = some y := ⟨vs[i]'(by have := HM.out; omega), List.getElem?_eq_getElem _⟩
        obtain ⟨ad, rfl, hca⟩ := (HA.out.below (Nat.le_refl _) HBw.out).load hx
        obtain ⟨bd, rfl, hcb⟩ := (HB.out.below (Nat.le_refl _) HBw.out).load hy
        have LX := Lib.hid (load_ent wr (ad.add (i * 6)) x hca)
        have LY := Lib.hid (fun W (hW : Below wr.heap.size wr W) => load_ent W (bd.add (i * 6)) y fun j v hj => by
          have h1 := hcb j v hj
          rw [hW.cell (p := (bd.add (i * 6)).add j) (World.block_lt_of_cell? wr _ h1)]
          exact h1)
        have EX := Lib.hid ((HHA.out x (List.mem_of_getElem? hx)).below (Nat.le_refl _) HBw.out)
        have EY := Lib.hid ((HHB.out y (List.mem_of_getElem? hy)).below (Nat.le_refl _) HBw.out)
        have HX := Lib.hid hx
        have HY := Lib.hid hy
        have hixa := fun W => ix_ent W ad n ca i hlt
        have hixb := fun W => ix_ent W bd n cb i hlt
        clear hca hcb hx hy
        go_upto_region 7 with (first
          | (refine wpList_load_by rfl 42 (.tmp 20) rfl _ (.agg (entC x.e x.a x.ca x.b x.cb)) rfl LX.out ?_)
          | (refine wpList_store_all rfl 42 (.tmp 8) (.tmp 21) rfl wr.heap.size (entC x.e x.a x.ca x.b x.cb) rfl rfl 42 zeroC (Blk.new wr 42 zeroC) (by kernel_rfl) rfl (by simp [entC, Value.oneCell']) ?_; intro w3 hb hos; (have HB3 := Lib.hid hb); (have HW3 := Lib.hid (show Below wr.heap.size wr w3 from ((Below.refl _ _).alloc (Nat.le_refl _) _).trans (hos.below (fun k hk e => by have e : k = wr.heap.size := e; omega) (by simp)))); clear hb hos)
          | (refine wpList_load_by rfl 42 (.tmp 24) rfl _ (.agg (entC y.e y.a y.ca y.b y.cb)) rfl (LY.out w3 HW3.out) ?_)
          | (refine wpList_store_all rfl 42 (.tmp 9) (.tmp 25) rfl w3.heap.size (entC y.e y.a y.ca y.b y.cb) rfl rfl 42 zeroC (Blk.new w3 42 zeroC) (by kernel_rfl) rfl (by simp [entC, Value.oneCell']) ?_; intro w4 hb hos; (have HB4 := Lib.hid hb); (have HW4 := Lib.hid (show Below w3.heap.size w3 w4 from ((Below.refl _ _).alloc (Nat.le_refl _) _).trans (hos.below (fun k hk e => by have e : k = w3.heap.size := e; omega) (by simp)))); clear hb hos))
        have HWr := Lib.hid (show Below wr.heap.size wr w4 from HW3.out.trans (HW4.out.mono HW3.out.size))
        obtain ⟨E1, hE1⟩ : ∃ E, E = wr.heap.size := ⟨_, rfl⟩
        obtain ⟨E2, hE2⟩ : ∃ E, E = w3.heap.size := ⟨_, rfl⟩
        rw [← hE1] at HB3
        rw [← hE2] at HB4
        rw [← hE1, ← hE2]
        have HL8 := Lib.hid (Blk.loads (P := Try.prog) (HB3.out.keep HW4.out) 42 _ Try.underlying42 rfl (by kernel_rfl))
        have HL9 := Lib.hid (Blk.loads (P := Try.prog) HB4.out 42 _ Try.underlying42 rfl (by kernel_rfl))
        have HC := Lib.hid (same_any x.e y.e x.a x.b y.a y.b x.ca x.cb y.ca y.cb w4 (EX.out.below (Nat.le_refl _) HWr.out) (EY.out.below (Nat.le_refl _) HWr.out))
        clear hE1 hE2 hixa hixb LX LY HB3 HB4 HW3 HW4
        go_wp2_with (first
          | (refine wpList_load_by rfl 42 (.tmp 8) rfl _ (.agg (entC x.e x.a x.ca x.b x.cb)) rfl HL8.out ?_)
          | (refine wpList_load_by rfl 42 (.tmp 9) rfl _ (.agg (entC y.e y.a y.ca y.b y.cb)) rfl HL9.out ?_))
        refine HC.out.mono ?_
        rintro r w5 ⟨rfl, hb5⟩
        have HW5 := Lib.hid (HBw.out.trans ((HWr.out.trans (hb5.mono HWr.out.size)).mono HBw.out.size))
        clear hb5 HC HL8 HL9 HWr
        by_cases hxy : x.e = y.e
        · rw [decide_eq_true hxy]
          have HNext := Lib.hid (⟨i + 1, by have := HN.out; omega, rfl, entsTo_next HE.out HX.out HY.out hxy, HW5.out⟩ : ListAt us vs w (.int .i64 ((i + 1 : Nat) : Int)) w5)
          clear hxy EX EY HX HY
          go_wp2
          go_roundw
          case rel => exact HNext.out
          case measure => simp [intOf]; omega
        · rw [decide_eq_false hxy]
          have HF := Lib.hid (show us.map EE.e ≠ vs.map EE.e from fun h => hxy (by
            have h1 : (us.map EE.e)[i]? = some x.e := by rw [List.getElem?_map, HX.out]; rfl
            have h2 : (vs.map EE.e)[i]? = some y.e := by rw [List.getElem?_map, HY.out]; rfl
            rw [h, h2] at h1
            exact (Option.some.inj h1).symm))
          clear hxy EX EY HX HY
          go_wp2
          go_ret
          exact ⟨by rw [decide_eq_false HF.out]; rfl, HW5.out⟩
      · obtain rfl : i = n := by omega
        have HT := Lib.hid (show us.map EE.e = vs.map EE.e by
          have h := HE.out
          unfold entsTo at h
          rwa [List.take_of_length_le (by have := HN.out; omega), List.take_of_length_le (by have := HM.out; omega)] at h)
        go_wp2
        go_ret
        exact ⟨by rw [decide_eq_true HT.out]; rfl, HBw.out⟩
  · have HF := Lib.hid (show us.map EE.e ≠ vs.map EE.e from fun h => hlen (by have := congrArg List.length h; simpa using this))
    have q : ((us.length : Int) != (vs.length : Int)) = true := by simpa using fun h : (us.length : Int) = (vs.length : Int) => hlen (by omega)
    clear ha hb hha hhb hn hlen
    go_enter Try.func41, Try.ntmps41
    go_wp2
    go_ret
    exact ⟨by rw [decide_eq_false HF.out]; rfl, Below.refl _ _⟩
end Go.Proofs.Ytidapdooiibfnaa

