/- DiskFuses: the walk. -/
import Derived.Test.YtabddeoeihlnnaaDiskAwake
import Derived.IntWalk
namespace Go.Proofs.Ytabddeoeihlnnaa
open Go.RowKit Go.Maps DiskMath

theorem Lone.mono {w W : World} {d c c' : Nat} {s : St} (h : Lone w W d c s) (hc : c ≤ c') (h2 : c' ≤ 2000) : Lone w W d c' s := by
  obtain ⟨T, h1, h3⟩ := h
  exact ⟨T, h1.mono hc h2, h3⟩

/-- A disk of which so many operations are done. -/
structure Fz (m i : Nat) (s : St) : Prop where
  off : s.off = false
  fuse : s.fuse = (m : Int) - i
  room : s.room = 1073741824
  one : ∀ p ∈ s.now, p.1 = [97] ∧ p.2.length ≤ 3030
  few : s.now.length ≤ 1

theorem Fz.start (m : Nat) : Fz m 0 { St.new 1073741824 with fuse := (m : Int) } := ⟨rfl, by show (m : Int) = m - (0 : Nat); omega, rfl, (fun p hp => by cases hp), Nat.zero_le _⟩

theorem Fz.none {m i : Nat} {s : St} (h : Fz m i s) (n : Nm) (hn : n ≠ [97]) : getA n s.now = none := getA_none_of fun p hp e => hn (by rw [← e, (h.one p hp).1])

theorem Fz.cut {m i : Nat} {s : St} (h : Fz m i s) (k : Int) : s.cut [110, 111, 110, 101] k = (8, s) := by
  unfold St.cut
  rw [h.off, h.none _ (by decide)]
  rfl
theorem Fz.name {m i : Nat} {s : St} (h : Fz m i s) (b : List UInt8) : s.write [65] 0 b = (1, s) := by
  unfold St.write
  rw [h.off]
  have : named [65] = false := by decide
  simp [this]
theorem Fz.place {m i : Nat} {s : St} (h : Fz m i s) (b : List UInt8) : s.write [97] (-1) b = (9, s) := by
  unfold St.write
  rw [h.off]
  have : named [97] = true := by decide
  simp [this]

theorem named_a : named [97] = true := by decide

theorem Fz.tot {m i : Nat} {s : St} (h : Fz m i s) : tot s.now ≤ 3030 := by
  have h1 := tot_le (l := s.now) (k := 3030) fun p hp => (h.one p hp).2
  have h2 := Nat.mul_le_mul_right 3030 h.few
  omega

theorem Fz.put {m i : Nat} {s : St} (h : Fz m i s) (t : List UInt8) (ht : t.length ≤ 3030) : (∀ p ∈ putA [97] t s.now, p.1 = [97] ∧ p.2.length ≤ 3030) ∧ (putA [97] t s.now).length ≤ 1 := by
  refine ⟨fun p hp => ?_, ?_⟩
  · rcases mem_put.1 hp with rfl | ⟨hp, _⟩
    · exact ⟨rfl, ht⟩
    · exact h.one p hp
  · have hd : delA [97] s.now = [] := by
      unfold delA
      rw [List.filter_eq_nil_iff]
      intro p hp
      simp [(h.one p hp).1]
    unfold putA
    rw [hd]
    simp [insA]

theorem Fz.get {m i : Nat} {s : St} (h : Fz m i s) : ((getA [97] s.now).getD []).length ≤ 3030 := by
  cases hg : getA [97] s.now with
  | none => simp
  | some t => exact (h.one _ (getA_mem hg)).2

theorem Fz.write {m i : Nat} {s : St} (h : Fz m i s) (hi : i < m) (hm : m ≤ 30) (b : List UInt8) (hb : b.length ≤ 3000) : (s.write [97] (i : Int) b).1 = 0 ∧ Fz m (i + 1) (s.write [97] (i : Int) b).2 := by
  have hg := h.get
  have ht := h.tot
  have hu : used s.now [97] i b.length ≤ 9090 := by
    unfold used
    split <;> omega
  have hf : s.fuse ≠ 0 := by rw [h.fuse]; omega
  have e : s.write [97] (i : Int) b = (0, s.run ⟨0, [97], [], i, b⟩) := by
    unfold St.write
    rw [h.off, named_a, h.room]
    simp only [Bool.false_eq_true, if_false, Bool.not_true, Int.toNat_natCast]
    rw [if_neg (by omega), if_neg (by omega)]
    simp [St.said, hf]
  rw [e]
  have er : s.run ⟨0, [97], [], i, b⟩ = { s with fuse := s.fuse - 1, now := doA ⟨0, [97], [], i, b⟩ s.now, ops := s.ops ++ [⟨0, [97], [], i, b⟩] } := by
    unfold St.run St.burn
    rw [if_neg hf, if_neg hf, if_pos (by rw [h.fuse]; omega)]
  refine ⟨rfl, ?_⟩
  simp only
  rw [er]
  have hlay : (layT ((getA [97] s.now).getD []) i b).length ≤ 3030 := by
    by_cases hb0 : b = []
    · unfold layT
      rw [if_pos hb0]
      exact hg
    · rw [layT_length _ _ _ hb0]
      omega
  have hp := h.put _ hlay
  exact ⟨h.off, by show s.fuse - 1 = _; rw [h.fuse]; omega, h.room, hp.1, hp.2⟩

theorem Fz.sync {m i : Nat} {s : St} (h : Fz m i s) (hi : i < m) : s.sync.1 = 0 ∧ Fz m (i + 1) s.sync.2 := by
  have hf : s.fuse ≠ 0 := by rw [h.fuse]; omega
  have e : s.sync = (0, { s with fuse := s.fuse - 1, sure := s.now, ops := [] }) := by
    unfold St.sync St.burn
    rw [h.off, if_neg (by decide), if_neg hf, if_neg hf, if_pos (by rw [h.fuse]; omega)]
  rw [e]
  exact ⟨rfl, h.off, by show s.fuse - 1 = _; rw [h.fuse]; omega, h.room, h.one, h.few⟩

/-- Where the fuse is burnt. -/
theorem Fz.burnt {m : Nat} {s : St} (h : Fz m m s) : s.sync = (6, { s with off := true }) := by
  have hf : s.fuse = 0 := by rw [h.fuse]; omega
  unfold St.sync St.burn
  rw [h.off, if_neg (by decide), if_pos hf, if_pos hf]

theorem off_write {s : St} (h : s.off = true) (n : Nm) (a : Int) (b : List UInt8) : s.write n a b = (6, s) := by unfold St.write; rw [if_pos h]
theorem off_cut {s : St} (h : s.off = true) (n : Nm) (k : Int) : s.cut n k = (6, s) := by unfold St.cut; rw [if_pos h]
theorem off_remove {s : St} (h : s.off = true) (n : Nm) : s.remove n = (6, s) := by unfold St.remove; rw [if_pos h]
theorem off_rename {s : St} (h : s.off = true) (n q : Nm) : s.rename n q = (6, s) := by unfold St.rename; rw [if_pos h]
theorem off_read {s : St} (h : s.off = true) (n : Nm) : s.read n = (6, []) := by unfold St.read; rw [if_pos h]
theorem crash_sync (s : St) (ks : List Bool) (t : Int) : ((s.crash ks t).sync).1 = 0 := by
  unfold St.crash St.sync
  simp

theorem thirty (x : Int) : ∃ m : Nat, wrap64 ((IntKind.u64.wrap x).tmod 30) = (m : Int) ∧ m < 30 := by
  rw [IntKind.wrap_u64]
  have h0 : 0 ≤ x % 18446744073709551616 := Int.emod_nonneg _ (by decide)
  rw [Int.tmod_eq_emod_of_nonneg h0]
  have h1 : 0 ≤ (x % 18446744073709551616) % 30 := Int.emod_nonneg _ (by omega)
  have h2 : (x % 18446744073709551616) % 30 < 30 := Int.emod_lt_of_pos _ (by omega)
  refine ⟨((x % 18446744073709551616) % 30).toNat, ?_, by omega⟩
  rw [IntWalk.wrap64_in _ ⟨by omega, by omega⟩, Int.toNat_of_nonneg h1]

/-- Between two rounds. -/
def FuseAt (w : World) (d m : Nat) (s6 : Value) (wr : World) : Prop := ∃ (i : Nat) (s : St), i ≤ m ∧ s6 = .int .i64 i ∧ Lone w wr d (4 * i) s ∧ Fz m i s

set_option maxHeartbeats 2000000 in
set_option maxRecDepth 20000 in
theorem fuses_walk (x : Int) (a : Option Addr) (len cap : Nat) (b : List UInt8) (w : World) (hb : Bys w (.slice a len cap) b) (hl : b.length = len) :
    Calls Try.prog 6 #[.int .i64 x, .slice a len cap] w fun e w' => e = .returned (.bool true) ∧ Below w.heap.size w w' := by
  have HB := Lib.hid hb
  have HLn := Lib.hid hl
  clear hb hl
  go_enter Try.func6, Try.ntmps6
  go_wp2_with fail
  refine (dawake_any w).mono ?_
  rintro e w1 ⟨rfl, hb1⟩
  have HB1 := Lib.hid hb1
  clear hb1
  by_cases h3 : 3000 < len
  · have i1 : decide ((3000 : Int) < (len : Int)) = true := by simp; omega
    go_wp2_with fail
    refine (dawake_any w1).mono ?_
    rintro e w2 ⟨rfl, hb2⟩
    have HB2 := Lib.hid (HB1.out.trans (hb2.mono HB1.out.size))
    clear hb2
    go_wp2
    go_ret
    exact ⟨rfl, HB2.out⟩
  · have i1 : decide ((3000 : Int) < (len : Int)) = false := by simp; omega
    have hlb : b.length ≤ 3000 := by have := HLn.out; omega
    have HLb := Lib.hid hlb
    clear hlb
    go_wp2_with fail
    refine (lnew_any w w1 1073741824 HB1.out).mono ?_
    rintro e w2 ⟨d, rfl, hl2⟩
    obtain ⟨m, hm, hm30⟩ := thirty x
    rw [hm]
    have HL2 := Lib.hid hl2
    clear hl2 hm i1 h3
    go_wp2_with fail
    have hfu := lfuse_any HL2.out (m : Int) (by omega)
    rw [show max (m : Int) (-1) = (m : Int) by omega] at hfu
    refine hfu.mono ?_
    clear hfu
    rintro e w3 ⟨rfl, hl3⟩
    have HStart : Hid (FuseAt w d m (.int .i64 ((0 : Nat) : Int)) w3) := ⟨0, _, Nat.zero_le _, rfl, hl3, Fz.start m⟩
    clear hl3 HL2
    go_wp2
    go_loopw [6] (fun s6 wr => FuseAt w d m s6 wr) (fun s6 _ => m - (intOf s6).toNat)
    case atStart => exact HStart.out
    case round =>
      obtain ⟨i, s, hi, rfl, hlo, hfz⟩ := hrel
      have HLo := Lib.hid hlo
      have HFz := Lib.hid hfz
      clear hlo hfz
      by_cases hlt : i < m
      · have i1 : (i : Int) < (m : Int) := by omega
        have HBb := Lib.hid (HB.out.below (Nat.le_refl _) HLo.out.bel)
        go_wp2_with fail
        have h := lcut_any HLo.out (n := [110, 111, 110, 101]) (k := 0) (by omega) (by decide) (by omega)
        rw [HFz.out.cut] at h
        refine h.mono ?_
        clear h
        rintro e w4 ⟨rfl, hl4⟩
        have HL4 := Lib.hid hl4
        clear hl4
        go_wp2_with fail
        have h := lwrite_any HL4.out (n := [65]) (a := 0) (by omega) (by decide) (by omega) (HB.out.below (Nat.le_refl _) HL4.out.bel) HLn.out (by have := HLb.out; have := HLn.out; omega)
        rw [HFz.out.name] at h
        refine h.mono ?_
        clear h
        rintro e w5 ⟨rfl, hl5⟩
        have HL5 := Lib.hid hl5
        clear hl5
        go_wp2_with fail
        have h := lwrite_any HL5.out (n := [97]) (a := -1) (by omega) (by decide) (by omega) (HB.out.below (Nat.le_refl _) HL5.out.bel) HLn.out (by have := HLb.out; have := HLn.out; omega)
        rw [HFz.out.place] at h
        refine h.mono ?_
        clear h
        rintro e w6 ⟨rfl, hl6⟩
        have HL6 := Lib.hid hl6
        clear hl6
        rcases Nat.mod_two_eq_zero_or_one i with h2 | h2
        · have hm0 : ((i : Int).tmod 2 == 0) = true := by
            rw [Int.tmod_eq_emod_of_nonneg (by omega)]
            simp
            omega
          go_wp2_with fail
          have h := lwrite_any HL6.out (n := [97]) (a := (i : Int)) (by omega) (by decide) (by omega) (HB.out.below (Nat.le_refl _) HL6.out.bel) HLn.out (by have := HLb.out; have := HLn.out; omega)
          obtain ⟨e0, hf⟩ := HFz.out.write hlt (by omega) b HLb.out
          rw [e0] at h
          refine h.mono ?_
          clear h
          rintro e w7 ⟨rfl, hl7⟩
          have HN : Hid (FuseAt w d m (.int .i64 ((i + 1 : Nat) : Int)) w7) := ⟨i + 1, _, by omega, rfl, hl7.mono (by omega) (by omega), hf⟩
          clear hl7 hf e0
          go_wp2
          all_goals first
            | (go_roundw
               case rel => exact HN.out
               case measure => simp [intOf]; omega)
            | skip
        · have hm0 : ((i : Int).tmod 2 == 0) = false := by
            rw [Int.tmod_eq_emod_of_nonneg (by omega)]
            simp
            omega
          have hm1 : ((i : Int).tmod 2 == 1) = true := by
            rw [Int.tmod_eq_emod_of_nonneg (by omega)]
            simp
            omega
          go_wp2_with fail
          have h := lsync_any HL6.out
          obtain ⟨e0, hf⟩ := HFz.out.sync hlt
          rw [e0] at h
          refine h.mono ?_
          clear h
          rintro e w7 ⟨rfl, hl7⟩
          have HN : Hid (FuseAt w d m (.int .i64 ((i + 1 : Nat) : Int)) w7) := ⟨i + 1, _, by omega, rfl, hl7.mono (by omega) (by omega), hf⟩
          clear hl7 hf e0
          go_wp2
          all_goals first
            | (go_roundw
               case rel => exact HN.out
               case measure => simp [intOf]; omega)
            | skip
      · obtain rfl : i = m := by omega
        obtain ⟨wo, rfl⟩ : ∃ wo : World, wo = wr := ⟨_, rfl⟩
        have hs : s.sync = (6, { s with off := true }) := HFz.out.burnt
        obtain ⟨s1, hs1⟩ : ∃ s1, s1 = ({ s with off := true } : St) := ⟨_, rfl⟩
        have hoff : s1.off = true := by rw [hs1]
        rw [← hs1] at hs
        have HOff := Lib.hid hoff
        clear hs1 hoff
        go_wp2_with fail
        have h := ldown_any HLo.out
        rw [HFz.out.off] at h
        refine h.mono ?_
        clear h
        rintro e w4 ⟨rfl, rfl⟩
        go_wp2_with fail
        have h := lsync_any HLo.out
        rw [hs] at h
        refine h.mono ?_
        clear h hs
        rintro e w5 ⟨rfl, hl5⟩
        have HL5 := Lib.hid hl5
        clear hl5
        go_wp2_with fail
        have h := ldown_any HL5.out
        rw [show (6, s1).2.off = true from HOff.out] at h
        refine h.mono ?_
        clear h
        rintro e w4 ⟨rfl, rfl⟩
        have HL5' : Hid (Lone w w5 d (4 * i) s1) := HL5.out
        clear HL5
        go_wp2_with fail
        have h := lwrite_any HL5'.out (n := [97]) (a := 0) (by omega) (by decide) (by omega) (HB.out.below (Nat.le_refl _) HL5'.out.bel) HLn.out (by have := HLb.out; have := HLn.out; omega)
        rw [off_write HOff.out] at h
        refine h.mono ?_
        clear h
        rintro e w6 ⟨rfl, hl6⟩
        have HL6 := Lib.hid hl6
        clear hl6
        go_wp2_with fail
        have h := lremove_any HL6.out (n := [97]) (by omega) (by decide)
        rw [off_remove HOff.out] at h
        refine h.mono ?_
        clear h
        rintro e w7 ⟨rfl, hl7⟩
        have HL7 := Lib.hid hl7
        clear hl7
        go_wp2_with fail
        have h := lcut_any HL7.out (n := [110, 111, 110, 101]) (k := 0) (by omega) (by decide) (by omega)
        rw [off_cut HOff.out] at h
        refine h.mono ?_
        clear h
        rintro e w8 ⟨rfl, hl8⟩
        have HL8 := Lib.hid hl8
        clear hl8
        go_wp2_with fail
        have h := lrename_any HL8.out (n := [97]) (q := [98]) (by omega) (by decide) (by decide)
        rw [off_rename HOff.out] at h
        refine h.mono ?_
        clear h
        rintro e w9 ⟨rfl, hl9⟩
        have HL9 := Lib.hid hl9
        clear hl9
        go_wp2_with fail
        have h := lread_any HL9.out (n := [97]) (by decide)
        rw [off_read HOff.out] at h
        refine h.mono ?_
        clear h
        rintro e w10 ⟨v, rfl, hr, -, hl10⟩
        have HL10 := Lib.hid hl10
        clear hl10 hr
        go_wp2_with fail
        have hbl : Bls w10 (.slice none 0 0) [] := ⟨none, 0, rfl, fun i b h => by simp at h⟩
        refine (lcrash_any HL10.out (torn := 0) hbl rfl (by omega)).mono ?_
        clear hbl
        rintro e w11 ⟨rfl, hl11⟩
        have HL11 := Lib.hid hl11
        clear hl11
        go_wp2_with fail
        have h := ldown_any HL11.out
        rw [show ((s1.crash [] 0)).off = false from rfl] at h
        refine h.mono ?_
        clear h
        rintro e w12 ⟨rfl, rfl⟩
        go_wp2_with fail
        have h := lsync_any HL11.out
        rw [crash_sync] at h
        refine h.mono ?_
        clear h
        rintro e w13 ⟨rfl, hl13⟩
        have HL13 := Lib.hid hl13.bel
        clear hl13
        go_wp2
        go_ret
        exact ⟨rfl, HL13.out⟩

theorem fuses_all (w : World) (n : Int) (_ : (Lit.int .i64 n).wf = true) (a : Option Addr) (len cap : Nat) (zs : List Int) (h : IsRow .u8 w a len cap zs) (_ : cap * 1 ≤ 140737488351232) :
    Calls Try.prog 6 #[.int .i64 n, .slice a len cap] w fun e w' => e = .returned (.bool true) ∧ Below w.heap.size w w' := by
  obtain ⟨l, hl, hb⟩ := h.bys
  exact fuses_walk n a len cap l w hb hl
end Go.Proofs.Ytabddeoeihlnnaa
