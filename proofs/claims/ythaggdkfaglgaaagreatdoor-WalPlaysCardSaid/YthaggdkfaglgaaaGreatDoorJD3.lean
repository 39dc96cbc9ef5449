/- Joined: DiskCalls, DiskCalls2, DiskSync, DiskKept, DiskCopied, DiskCrash. -/
import Derived.Test.YthaggdkfaglgaaaGreatDoorJD2
import Derived.Maps.RangeWalk
import Derived.Test.YthaggdkfaglgaaaGreatDoorJA2
/- New, Write, Cut, Remove, Rename, Sync, Read. -/
namespace Go.Proofs.YthaggdkfaglgaaaGreatDoor
set_option maxRecDepth 20000
open Go.RowKit Go.Maps DiskMath Reg

set_option maxHeartbeats 1000000 in
theorem new_any (w : World) (room : Int) : Calls Tryz.prog 27 #[.int .i64 room] w fun e w' => ∃ d, e = .returned (dp d) ∧ IsDisk w' (fun k => w.heap.size ≤ k ∧ k < w'.heap.size) d 0 (St.new room) ∧ Below w.heap.size w w' := by
  have hmax : ∀ (ts : Array TypeId) (ty : TypeId) (W : World), (Builtin.max_ ts ty #[.int .i64 room, .int .i64 0]).run Tryz.prog W = .ok (.int .i64 (max room 0)) W := fun ts ty W => by
    have e : (if (0 : Int) > room then 0 else room) = max room 0 := by omega
    rw [run_max_int2, e]
  go_enter Tryz.func27, Tryz.ntmps27
  go_wp2_with fail
  refine (noFiles_any w).mono ?_
  rintro e w1 ⟨m1, rfl, k1, b1, n1⟩
  have K1 := Lib.hid k1
  have B1 := Lib.hid b1
  clear k1 b1
  go_wp2_with fail
  refine (noFiles_any w1).mono ?_
  rintro e w2 ⟨m2, rfl, k2, b2, n2⟩
  have K2 := Lib.hid k2
  have B2 := Lib.hid b2
  clear k2 b2
  go_wp2
  go_ret
  have hb3 : Below w2.heap.size w2 (w2.alloc (.cells #[.int .i64 (max room 0), .bool false, .int .i64 (-1), .map (some m1), .int .i64 0, .map (some m2), .int .i64 0, .slice none 0 0] 98)) := (Below.refl _ _).alloc (Nat.le_refl _) _
  have hm1 := K1.out.lt
  have hs1 := B1.out.size
  have hs2 := B2.out.size
  have hm2 := K2.out.lt
  have hbel := (B1.out.trans (B2.out.mono hs1)).trans (hb3.mono (Nat.le_trans hs1 hs2))
  refine ⟨w2.heap.size, rfl, ⟨⟨m1, m2, [], [], .slice none 0 0, [], ?_, ?_⟩, fun k hk => hk.2⟩, hbel⟩
  · exact {
      blk := by
        have e : dC (St.new room) m1 m2 (.slice none 0 0) = #[.int .i64 (max room 0), .bool false, .int .i64 (-1), .map (some m1), .int .i64 0, .map (some m2), .int .i64 0, .slice none 0 0] := rfl
        rw [e]
        exact Blk.new w2 _ _
      k1 := (K1.out.below B2.out).below hb3
      p1 := rfl
      k2 := K2.out.below hb3
      p2 := rfl
      wops := ⟨World.ownsRow_nil _ _ _ _, (fun p hp => by cases hp)⟩
      pw := rfl
      ok := ⟨rfl, List.Pairwise.nil, (fun p hp => by cases hp), (fun o ho => by cases ho), Nat.le_refl _⟩
      small := by omega
      ne := by omega
      ap := fun k h => by obtain ⟨p, hp, _⟩ := h; cases hp
      apo := fun p hp => by cases hp
      fuse := by show -1 ≤ (-1 : Int) ∧ (-1 : Int) ≤ 9223372036854775807; omega }
  · intro k hk
    rcases hk with rfl | rfl | rfl | ⟨p, hp, _⟩ | ⟨p, hp, _⟩ | hk | ⟨p, hp, _⟩
    · exact ⟨by omega, by simp⟩
    · exact ⟨n1, by simp; omega⟩
    · exact ⟨by omega, by simp; omega⟩
    · cases hp
    · cases hp
    · simp [Value.ownBlock] at hk
    · cases hp

theorem named_len {n : Nm} (h : named n = true) : n.length ≤ 16 := by
  unfold named at h
  simp at h
  exact h.1.2

theorem row_lower0 {w : World} {B : Nat} {v : Value} {l : List UInt8} (h : Row w B v l) : Row w 0 v l := by
  refine ⟨h.1, ?_⟩
  rcases h.2 with h0 | ⟨g, cap, cur, h1, _, h3⟩
  · exact .inl h0
  · exact .inr ⟨g, cap, cur, h1, Nat.zero_le _, h3⟩

/-- What run leaves, told of the disk. -/
theorem RunEnd.next {w W w' : World} {T : Nat → Prop} {d c : Nat} {s : St} {m1 m2 : Nat} {F1 F2 : Gf} {ws : Value} {G : Go8} {v : Value} (h : RunEnd W d c s m1 m2 F1 F2 ws G v w') (hlt : ∀ k, T k → k < w.heap.size) (ht : ∀ k, tk d m1 m2 F1 F2 ws G k → T k)
    (hb : Below w.heap.size w W) (hv : ∀ k, v.ownBlock = some k → w.heap.size ≤ k) : Next w T d c s w' := by
  obtain ⟨⟨F1', ws', G', h1, h2⟩, h3⟩ := h
  refine Next.of hlt ((OnlyS.of_below (S := T) hb fun k hk _ => hk).then h3 fun k _ hk => ht k hk) h1 fun k hk => ?_
  rcases h2 k hk with h | h | h
  · exact .inl (ht k h)
  · exact .inr (hv k h)
  · exact .inr (Nat.le_trans hb.size h)

theorem run_next {w W : World} {T : Nat → Prop} {d c : Nat} {s : St} {m1 m2 : Nat} {F1 F2 : Gf} {ws v : Value} {G : Go8} {op : AOp} (hd : Dk w d c s m1 m2 F1 F2 ws G) (ht : ∀ k, tk d m1 m2 F1 F2 ws G k → T k) (hlt : ∀ k, T k → k < w.heap.size) (hc : c + 1 ≤ 2000) (ho : FitO op)
    (hb : Below w.heap.size w W) (hv : Row W w.heap.size v op.b) : Calls Tryz.prog 156 #[dp d, .agg (opC op v)] W fun e w' => e = .returned (.int .i64 (s.said : Int)) ∧ Next w T d (c + 1) (s.run op) w' := by
  refine (run_any (hd.same fun k hk => hb.block k (hd.lt hk)) hc ho (row_lower0 hv) fun k hk => ⟨fun hf => ?_, fun hf => ?_⟩).mono ?_
  · have := (hv.lt hk).1
    have := hd.k1.foot_lt hf
    omega
  · have := (hv.lt hk).1
    have := hd.k2.foot_lt hf
    omega
  · rintro e w' ⟨rfl, h⟩
    exact ⟨rfl, h.next hlt ht hb fun k hk => (hv.lt hk).1⟩

set_option maxHeartbeats 1000000 in
theorem write_any {w : World} {T : Nat → Prop} {d c : Nat} {s : St} {n : Nm} {a : Int} {ab : Option Addr} {lb cb : Nat} {b : List UInt8} (h : IsDisk w T d c s) (hc : c + 1 ≤ 2000) (hn : n.length ≤ 9223372036854775807) (ha : -9223372036854775808 ≤ a ∧ a ≤ 9223372036854775807)
    (hb : Bys w (.slice ab lb cb) b) (hlb : b.length = lb) (hl : lb ≤ 4194304) :
    Calls Tryz.prog 106 #[dp d, nm n, .int .i64 a, .slice ab lb cb] w fun e w' => e = .returned (.int .i64 ((s.write n a b).1 : Int)) ∧ Next w T d (c + 1) (s.write n a b).2 w' := by
  have hself : Next w T d (c + 1) s w := (Next.refl h).mono (Nat.le_succ c) hc
  have hlt := h.lt
  obtain ⟨m1, m2, F1, F2, ws, G, hd, ht⟩ := h.ex
  have HDown := Lib.hid (down_any hd)
  have HName := Lib.hid (isName_any n w hn)
  have HSelf := Lib.hid hself
  have HD := Lib.hid hd
  have HT := Lib.hid ht
  have HLt := Lib.hid hlt
  have HBy := Lib.hid hb
  have HLb := Lib.hid hlb
  have c0 : w.cell? ⟨d, 0, none⟩ = some (.int .i64 (max s.room 0)) := by rw [hd.cells]; rfl
  have hoff : ∀ b', s.off = b' → True := fun _ _ => trivial
  clear hoff
  unfold St.write
  clear hself h hd ht hlt hb hlb
  by_cases h1 : s.off = true
  · rw [if_pos h1]
    rw [h1] at HDown
    clear h1 HName c0
    go_enter Tryz.func106, Tryz.ntmps106
    go_wp2_with fail
    refine HDown.out.mono ?_
    rintro e w' ⟨rfl, rfl⟩
    go_wp2
    go_ret
    exact ⟨rfl, HSelf.out⟩
  rw [if_neg h1]
  have h1' : s.off = false := by simpa using h1
  rw [h1'] at HDown
  by_cases h2 : named n = false
  · rw [h2] at HName ⊢
    clear h1 h1' c0 h2
    go_enter Tryz.func106, Tryz.ntmps106
    go_wp2_with fail
    refine HDown.out.mono ?_
    rintro e w' ⟨rfl, rfl⟩
    go_wp2_with fail
    refine HName.out.mono ?_
    rintro e w' ⟨rfl, rfl⟩
    go_wp2
    go_ret
    exact ⟨rfl, HSelf.out⟩
  have h2' : named n = true := by simpa using h2
  have HN16 := Lib.hid (named_len h2')
  rw [h2'] at HName ⊢
  simp only [Bool.not_true, Bool.false_eq_true, if_false]
  by_cases h3 : a < 0 ∨ 1048576 < a
  · rw [if_pos h3]
    clear h1 h1' c0 h2 h2'
    have hx : (decide (a < 0) = true) ∨ (decide (a < 0) = false ∧ decide (1048576 < a) = true) := by
      by_cases h : a < 0
      · exact .inl (by simpa using h)
      · exact .inr ⟨by simpa using h, by simp; omega⟩
    rcases hx with hx | ⟨hx, hy⟩
    · clear h3
      go_enter Tryz.func106, Tryz.ntmps106
      go_wp2_with fail
      refine HDown.out.mono ?_
      rintro e w' ⟨rfl, rfl⟩
      go_wp2_with fail
      refine HName.out.mono ?_
      rintro e w' ⟨rfl, rfl⟩
      go_wp2
      all_goals first | (exfalso; simp at hx; omega) | (go_ret; exact ⟨rfl, HSelf.out⟩)
    · clear h3
      go_enter Tryz.func106, Tryz.ntmps106
      go_wp2_with fail
      refine HDown.out.mono ?_
      rintro e w' ⟨rfl, rfl⟩
      go_wp2_with fail
      refine HName.out.mono ?_
      rintro e w' ⟨rfl, rfl⟩
      go_wp2
      all_goals first | (exfalso; simp at hx hy; omega) | (go_ret; exact ⟨rfl, HSelf.out⟩)
  rw [if_neg h3]
  obtain ⟨A, rfl⟩ : ∃ A : Nat, a = (A : Int) := ⟨a.toNat, by omega⟩
  simp only [Int.toNat_natCast]
  have hA : A ≤ 1048576 := by omega
  have i1 : decide ((A : Int) < 0) = false := by simp
  have i2 : decide (1048576 < (A : Int)) = false := by simp; omega
  have hfew : F1.length ≤ 2000 := by
    have e1 := HD.out.ok.fewN
    rw [← HD.out.p1, pr_length] at e1
    omega
  have c3 : ∀ N, (w.drewN N).cell? ⟨d, 3, none⟩ = some (.map (some m1)) := fun N => by show w.cell? _ = _; rw [HD.out.cells]; rfl
  have c4 : ∀ N, (w.drewN N).cell? ⟨d, 3 + 1, none⟩ = some (.int .i64 (tot (pr F1) : Int)) := fun N => by show w.cell? _ = _; rw [HD.out.p1, HD.out.cells]; rfl
  have HU : Hid (∀ N, Calls Tryz.prog 155 #[fp d 3, nm n, .int .i64 (A : Int), .int .i64 (lb : Int)] (w.drewN N) fun e w'' => e = .returned (.int .i64 (used s.now n A lb : Int)) ∧ ∃ m, w'' = w.drewN m) := fun N => by
    have h := usedWith_any (k := lb) (c3 N) (c4 N) ((sames_drewN w N).keep HD.out.k1) hn (by rw [HD.out.p1]; exact HD.out.ok.fitN) (by omega) hA hl
    rw [HD.out.p1] at h
    exact h.mono fun e w' h => ⟨h.1, N, h.2.symm⟩
  rw [HLb.out]
  obtain ⟨U, hU⟩ : ∃ U, U = used s.now n A lb := ⟨_, rfl⟩
  rw [← hU] at HU ⊢
  obtain ⟨R, hR⟩ : ∃ R, R = max s.room 0 := ⟨_, rfl⟩
  rw [← hR] at c0 ⊢
  clear hU hR c3 c4 h1 h1' h2 h2' h3
  by_cases h4 : R < (U : Int)
  · rw [if_pos h4]
    have i3 : decide (R < (U : Int)) = true := by simpa using h4
    go_enter Tryz.func106, Tryz.ntmps106
    go_wp2_with fail
    refine HDown.out.mono ?_
    rintro e w' ⟨rfl, rfl⟩
    go_wp2_with fail
    refine HName.out.mono ?_
    rintro e w' ⟨rfl, rfl⟩
    go_wp2
    go_quiet (first | with_reducible exact HU.out _)
    go_wp2
    go_ret
    exact ⟨rfl, ⟨(HSelf.out.disk).same (fun k _ => rfl) (Nat.le_refl _), (sames_drewN w nq).only T⟩⟩
  · rw [if_neg h4]
    have i3 : decide (R < (U : Int)) = false := by simpa using h4
    have HClone := Lib.hid (fun N => clone_any ab lb cb b (w.drewN N) (show Bys (w.drewN N) _ b from HBy.out) (by have := HLb.out; omega))
    obtain ⟨N, hN⟩ : ∃ N, nm n = .string N := ⟨_, rfl⟩
    have hfo : FitO ⟨0, n, [], A, b⟩ := ⟨Nat.zero_le _, HN16.out, Nat.zero_le _, (by show A ≤ 8388608; omega), fun _ => hA, (by show b.length ≤ 4194304; have := HLb.out; omega), fun h => absurd rfl h, fun h => absurd h (Nat.not_lt.2 (Nat.zero_le 1))⟩
    have HRun : Hid (∀ W v, Below w.heap.size w W → Row W w.heap.size v b → Calls Tryz.prog 156 #[dp d, .agg #[.int .i64 0, .string N, .string ⟨#[]⟩, .int .i64 (A : Int), v]] W fun e w' => e = .returned (.int .i64 (s.said : Int)) ∧ Next w T d (c + 1) (s.run ⟨0, n, [], A, b⟩) w') := fun W v hb hv => by
      have h := run_next (op := ⟨0, n, [], A, b⟩) (v := v) HD.out HT.out HLt.out hc hfo hb hv
      simp only [opC, hN] at h
      exact h
    rw [hN] at HName HU ⊢
    clear hfo hN
    go_enter Tryz.func106, Tryz.ntmps106
    go_wp2_with fail
    refine HDown.out.mono ?_
    rintro e w' ⟨rfl, rfl⟩
    go_wp2_with fail
    refine HName.out.mono ?_
    rintro e w' ⟨rfl, rfl⟩
    go_wp2
    go_quiet (first | with_reducible exact HU.out _)
    go_wp2_with fail
    refine (HClone.out _).mono ?_
    rintro e w1 ⟨v, rfl, hv, hb1⟩
    obtain ⟨va, vc, rfl⟩ := slice_of_row hv
    have HV := Lib.hid hv
    have HB1 := Lib.hid hb1
    clear hv hb1
    go_wp2_with fail
    refine (HRun.out w1 _ ⟨HB1.out.os, HB1.out.tape, HB1.out.output, HB1.out.size, HB1.out.block⟩ HV.out).mono ?_
    rintro e w2 ⟨rfl, hnx⟩
    have HNx := Lib.hid hnx
    clear hnx
    go_wp2
    go_ret
    exact ⟨rfl, HNx.out⟩
end Go.Proofs.YthaggdkfaglgaaaGreatDoor

/- Cut, Remove, Rename, Read. -/
namespace Go.Proofs.YthaggdkfaglgaaaGreatDoor
set_option maxRecDepth 20000
open Go.RowKit Go.Maps DiskMath Reg

theorem get_some {F : Gf} {L : Fs} (h : pr F = L) (n : Nm) : (getA n F).isSome = (getA n L).isSome := by
  rw [← h, pr_get]
  cases getA n F <;> rfl

theorem long_row {w : World} {m : Nat} {F : Gf} (hk : Keep w m F) {n : Nm} {t : List UInt8} (hg : getA n (pr F) = some t) : ∃ A C, vOf n F = .slice A t.length C ∧ Row w 0 (.slice A t.length C) t := by
  have h := vOf_row hk n
  rw [hg] at h
  obtain ⟨A, C, e⟩ := slice_of_row h
  exact ⟨A, C, e, by rw [← show _ = Value.slice A t.length C from e]; exact h⟩

theorem row_nil (w : World) (B : Nat) : Row w B (.slice none 0 0) [] := World.ownsRow_nil _ _ _ _

set_option maxHeartbeats 1000000 in
theorem remove_any {w : World} {T : Nat → Prop} {d c : Nat} {s : St} {n : Nm} (h : IsDisk w T d c s) (hc : c + 1 ≤ 2000) (hn : n.length ≤ 9223372036854775807) :
    Calls Tryz.prog 109 #[dp d, nm n] w fun e w' => e = .returned (.int .i64 ((s.remove n).1 : Int)) ∧ Next w T d (c + 1) (s.remove n).2 w' := by
  unfold St.remove
  have hself : Next w T d (c + 1) s w := (Next.refl h).mono (Nat.le_succ c) hc
  have hlt := h.lt
  obtain ⟨m1, m2, F1, F2, ws, G, hd, ht⟩ := h.ex
  have c3 : w.cell? ⟨d, 3, none⟩ = some (.map (some m1)) := by rw [hd.cells]; rfl
  have HDown := Lib.hid (down_any hd)
  have HHas := Lib.hid (has_any c3 hd.k1 hn)
  rw [get_some hd.p1] at HHas
  have HSelf := Lib.hid hself
  have HD := Lib.hid hd
  have HT := Lib.hid ht
  have HLt := Lib.hid hlt
  clear hself h hd ht hlt
  by_cases h1 : s.off = true
  · rw [if_pos h1]
    rw [h1] at HDown
    clear h1 c3 HHas
    go_enter Tryz.func109, Tryz.ntmps109
    go_wp2_with fail
    refine HDown.out.mono ?_
    rintro e w' ⟨rfl, rfl⟩
    go_wp2
    go_ret
    exact ⟨rfl, HSelf.out⟩
  rw [if_neg h1]
  rw [show s.off = false by simpa using h1] at HDown
  clear h1
  have HN16 : Hid (∀ t, getA n s.now = some t → n.length ≤ 16) := fun t h => (HD.out.ok.fitN _ (getA_mem h)).1
  cases hg : getA n s.now with
  | none =>
    simp only
    rw [hg] at HHas
    clear c3
    go_enter Tryz.func109, Tryz.ntmps109
    go_wp2_with fail
    refine HDown.out.mono ?_
    rintro e w' ⟨rfl, rfl⟩
    go_wp2_with fail
    refine HHas.out.mono ?_
    rintro e w' ⟨rfl, rfl⟩
    go_wp2
    go_ret
    exact ⟨rfl, HSelf.out⟩
  | some t =>
    simp only
    rw [hg] at HHas
    have hn16 := HN16.out t hg
    clear HN16
    have HN16 := Lib.hid hn16
    obtain ⟨N, hN⟩ : ∃ N, nm n = .string N := ⟨_, rfl⟩
    have hfo : FitO ⟨2, n, [], 0, []⟩ := ⟨(by show 2 ≤ 3; omega), HN16.out, Nat.zero_le _, Nat.zero_le _, fun h => absurd h (by show 2 ≠ 0; omega), Nat.zero_le _, fun _ => rfl, fun _ => rfl⟩
    have HRun : Hid (Calls Tryz.prog 156 #[dp d, .agg #[.int .i64 2, .string N, .string ⟨#[]⟩, .int .i64 0, .slice none 0 0]] w fun e w' => e = .returned (.int .i64 (s.said : Int)) ∧ Next w T d (c + 1) (s.run ⟨2, n, [], 0, []⟩) w') := by
      have h := run_next (op := ⟨2, n, [], 0, []⟩) (v := .slice none 0 0) HD.out HT.out HLt.out hc hfo (Below.refl _ w) (row_nil _ _)
      simp only [opC, hN] at h
      exact h
    rw [hN] at HHas ⊢
    clear hfo hN hg c3 hn16
    go_enter Tryz.func109, Tryz.ntmps109
    go_wp2_with fail
    refine HDown.out.mono ?_
    rintro e w' ⟨rfl, rfl⟩
    go_wp2_with fail
    refine HHas.out.mono ?_
    rintro e w' ⟨rfl, rfl⟩
    go_wp2_with fail
    refine HRun.out.mono ?_
    rintro e w2 ⟨rfl, hnx⟩
    have HNx := Lib.hid hnx
    clear hnx
    go_wp2
    go_ret
    exact ⟨rfl, HNx.out⟩

set_option maxHeartbeats 1000000 in
theorem rename_any {w : World} {T : Nat → Prop} {d c : Nat} {s : St} {n q : Nm} (h : IsDisk w T d c s) (hc : c + 1 ≤ 2000) (hn : n.length ≤ 9223372036854775807) (hq : q.length ≤ 9223372036854775807) :
    Calls Tryz.prog 111 #[dp d, nm n, nm q] w fun e w' => e = .returned (.int .i64 ((s.rename n q).1 : Int)) ∧ Next w T d (c + 1) (s.rename n q).2 w' := by
  unfold St.rename
  have hself : Next w T d (c + 1) s w := (Next.refl h).mono (Nat.le_succ c) hc
  have hlt := h.lt
  obtain ⟨m1, m2, F1, F2, ws, G, hd, ht⟩ := h.ex
  have c3 : w.cell? ⟨d, 3, none⟩ = some (.map (some m1)) := by rw [hd.cells]; rfl
  have HDown := Lib.hid (down_any hd)
  have HHas := Lib.hid (has_any c3 hd.k1 hn)
  rw [get_some hd.p1] at HHas
  have HSelf := Lib.hid hself
  have HD := Lib.hid hd
  have HT := Lib.hid ht
  have HLt := Lib.hid hlt
  have HName := Lib.hid (isName_any q w hq)
  clear hself h hd ht hlt
  by_cases h1 : s.off = true
  · rw [if_pos h1]
    rw [h1] at HDown
    clear h1 c3 HHas
    go_enter Tryz.func111, Tryz.ntmps111
    go_wp2_with fail
    refine HDown.out.mono ?_
    rintro e w' ⟨rfl, rfl⟩
    go_wp2
    go_ret
    exact ⟨rfl, HSelf.out⟩
  rw [if_neg h1]
  rw [show s.off = false by simpa using h1] at HDown
  clear h1
  have HN16 : Hid (∀ t, getA n s.now = some t → n.length ≤ 16) := fun t h => (HD.out.ok.fitN _ (getA_mem h)).1
  cases hg : getA n s.now with
  | none =>
    simp only
    rw [hg] at HHas
    clear c3
    go_enter Tryz.func111, Tryz.ntmps111
    go_wp2_with fail
    refine HDown.out.mono ?_
    rintro e w' ⟨rfl, rfl⟩
    go_wp2_with fail
    refine HHas.out.mono ?_
    rintro e w' ⟨rfl, rfl⟩
    go_wp2
    go_ret
    exact ⟨rfl, HSelf.out⟩
  | some t =>
    simp only
    rw [hg] at HHas
    have hn16 := HN16.out t hg
    clear HN16
    have HN16 := Lib.hid hn16
    by_cases h2 : named q = false
    · rw [h2] at HName ⊢
      simp only [Bool.not_false, if_true]
      clear h2 hg hn16 c3
      go_enter Tryz.func111, Tryz.ntmps111
      go_wp2_with fail
      refine HDown.out.mono ?_
      rintro e w' ⟨rfl, rfl⟩
      go_wp2_with fail
      refine HHas.out.mono ?_
      rintro e w' ⟨rfl, rfl⟩
      go_wp2_with fail
      refine HName.out.mono ?_
      rintro e w' ⟨rfl, rfl⟩
      go_wp2
      go_ret
      exact ⟨rfl, HSelf.out⟩
    have h2' : named q = true := by simpa using h2
    have hq16 := named_len h2'
    rw [h2'] at HName ⊢
    simp only [Bool.not_true, Bool.false_eq_true, if_false]
    obtain ⟨N, hN⟩ : ∃ N, nm n = .string N := ⟨_, rfl⟩
    obtain ⟨M, hM⟩ : ∃ M, nm q = .string M := ⟨_, rfl⟩
    have hfo : FitO ⟨3, n, q, 0, []⟩ := ⟨(by show 3 ≤ 3; omega), HN16.out, hq16, Nat.zero_le _, fun h => absurd h (by show 3 ≠ 0; omega), Nat.zero_le _, fun _ => rfl, fun _ => rfl⟩
    have HRun : Hid (Calls Tryz.prog 156 #[dp d, .agg #[.int .i64 3, .string N, .string M, .int .i64 0, .slice none 0 0]] w fun e w' => e = .returned (.int .i64 (s.said : Int)) ∧ Next w T d (c + 1) (s.run ⟨3, n, q, 0, []⟩) w') := by
      have h := run_next (op := ⟨3, n, q, 0, []⟩) (v := .slice none 0 0) HD.out HT.out HLt.out hc hfo (Below.refl _ w) (row_nil _ _)
      simp only [opC, hN, hM] at h
      exact h
    rw [hN] at HHas ⊢
    rw [hM] at HName ⊢
    clear hfo hN hM hg c3 hn16 h2 h2' hq16
    go_enter Tryz.func111, Tryz.ntmps111
    go_wp2_with fail
    refine HDown.out.mono ?_
    rintro e w' ⟨rfl, rfl⟩
    go_wp2_with fail
    refine HHas.out.mono ?_
    rintro e w' ⟨rfl, rfl⟩
    go_wp2_with fail
    refine HName.out.mono ?_
    rintro e w' ⟨rfl, rfl⟩
    go_wp2_with fail
    refine HRun.out.mono ?_
    rintro e w2 ⟨rfl, hnx⟩
    have HNx := Lib.hid hnx
    clear hnx
    go_wp2
    go_ret
    exact ⟨rfl, HNx.out⟩

set_option maxHeartbeats 1000000 in
theorem cut_any {w : World} {T : Nat → Prop} {d c : Nat} {s : St} {n : Nm} {k : Int} (h : IsDisk w T d c s) (hc : c + 1 ≤ 2000) (hn : n.length ≤ 9223372036854775807) (hk : -9223372036854775808 ≤ k ∧ k ≤ 9223372036854775807) :
    Calls Tryz.prog 199 #[dp d, nm n, .int .i64 k] w fun e w' => e = .returned (.int .i64 ((s.cut n k).1 : Int)) ∧ Next w T d (c + 1) (s.cut n k).2 w' := by
  unfold St.cut
  have hself : Next w T d (c + 1) s w := (Next.refl h).mono (Nat.le_succ c) hc
  have hlt := h.lt
  obtain ⟨m1, m2, F1, F2, ws, G, hd, ht⟩ := h.ex
  have c3 : w.cell? ⟨d, 3, none⟩ = some (.map (some m1)) := by rw [hd.cells]; rfl
  have HDown := Lib.hid (down_any hd)
  have HHas := Lib.hid (has_any c3 hd.k1 hn)
  rw [get_some hd.p1] at HHas
  have HSelf := Lib.hid hself
  have HD := Lib.hid hd
  have HT := Lib.hid ht
  have HLt := Lib.hid hlt
  clear hself h hd ht hlt
  by_cases h1 : s.off = true
  · rw [if_pos h1]
    rw [h1] at HDown
    clear h1 c3 HHas
    go_enter Tryz.func199, Tryz.ntmps199
    go_wp2_with fail
    refine HDown.out.mono ?_
    rintro e w' ⟨rfl, rfl⟩
    go_wp2
    go_ret
    exact ⟨rfl, HSelf.out⟩
  rw [if_neg h1]
  rw [show s.off = false by simpa using h1] at HDown
  clear h1
  have HN16 : Hid (∀ t, getA n s.now = some t → n.length ≤ 16) := fun t h => (HD.out.ok.fitN _ (getA_mem h)).1
  cases hg : getA n s.now with
  | none =>
    simp only
    rw [hg] at HHas
    clear c3
    go_enter Tryz.func199, Tryz.ntmps199
    go_wp2_with fail
    refine HDown.out.mono ?_
    rintro e w' ⟨rfl, rfl⟩
    go_wp2_with fail
    refine HHas.out.mono ?_
    rintro e w' ⟨rfl, rfl⟩
    go_wp2
    go_ret
    exact ⟨rfl, HSelf.out⟩
  | some t =>
    simp only
    rw [hg] at HHas
    have hn16 := HN16.out t hg
    clear HN16
    have HN16 := Lib.hid hn16
    have ht8 : t.length ≤ 8388608 := (HD.out.ok.fitN _ (getA_mem hg)).2
    obtain ⟨A, C, hvo, -⟩ := long_row HD.out.k1 (n := n) (t := t) (by rw [HD.out.p1]; exact hg)
    have hlk := look HD.out.k1 hn
    rw [hvo] at hlk
    obtain ⟨L, hL⟩ : ∃ L, L = t.length := ⟨_, rfl⟩
    rw [← hL] at hlk ht8 ⊢
    by_cases h2 : k < 0
    · rw [if_pos (.inl h2)]
      have i1 : decide (k < 0) = true := by simpa using h2
      clear hg hn16 hL hvo
      go_enter Tryz.func199, Tryz.ntmps199
      go_wp2_with fail
      refine HDown.out.mono ?_
      rintro e w' ⟨rfl, rfl⟩
      go_wp2_with fail
      refine HHas.out.mono ?_
      rintro e w' ⟨rfl, rfl⟩
      go_wp2
      go_ret
      exact ⟨rfl, HSelf.out⟩
    have i1 : decide (k < 0) = false := by simp; omega
    by_cases h3 : (L : Int) < k
    · rw [if_pos (.inr h3)]
      have i2 : decide ((L : Int) < k) = true := by simpa using h3
      clear hg hn16 hL hvo
      go_enter Tryz.func199, Tryz.ntmps199
      go_wp2_with fail
      refine HDown.out.mono ?_
      rintro e w' ⟨rfl, rfl⟩
      go_wp2_with fail
      refine HHas.out.mono ?_
      rintro e w' ⟨rfl, rfl⟩
      go_wp2
      go_ret
      exact ⟨rfl, HSelf.out⟩
    have i2 : decide ((L : Int) < k) = false := by simp; omega
    rw [if_neg (by omega)]
    obtain ⟨K, rfl⟩ : ∃ K : Nat, k = (K : Int) := ⟨k.toNat, by omega⟩
    simp only [Int.toNat_natCast]
    have hK : K ≤ 8388608 := by omega
    obtain ⟨N, hN⟩ : ∃ N, nm n = .string N := ⟨_, rfl⟩
    have hfo : FitO ⟨1, n, [], K, []⟩ := ⟨(by show 1 ≤ 3; omega), HN16.out, Nat.zero_le _, hK, fun h => absurd h (by show 1 ≠ 0; omega), Nat.zero_le _, fun _ => rfl, fun h => absurd h (by show ¬ 1 < 1; omega)⟩
    have HRun : Hid (Calls Tryz.prog 156 #[dp d, .agg #[.int .i64 1, .string N, .string ⟨#[]⟩, .int .i64 (K : Int), .slice none 0 0]] w fun e w' => e = .returned (.int .i64 (s.said : Int)) ∧ Next w T d (c + 1) (s.run ⟨1, n, [], K, []⟩) w') := by
      have h := run_next (op := ⟨1, n, [], K, []⟩) (v := .slice none 0 0) HD.out HT.out HLt.out hc hfo (Below.refl _ w) (row_nil _ _)
      simp only [opC, hN] at h
      exact h
    rw [hN] at HHas hlk ⊢
    clear hfo hN hg hn16 hL hvo hK
    go_enter Tryz.func199, Tryz.ntmps199
    go_wp2_with fail
    refine HDown.out.mono ?_
    rintro e w' ⟨rfl, rfl⟩
    go_wp2_with fail
    refine HHas.out.mono ?_
    rintro e w' ⟨rfl, rfl⟩
    go_wp2_with fail
    refine HRun.out.mono ?_
    rintro e w2 ⟨rfl, hnx⟩
    have HNx := Lib.hid hnx
    clear hnx
    go_wp2
    go_ret
    exact ⟨rfl, HNx.out⟩

set_option maxHeartbeats 1000000 in
theorem read_any {w : World} {T : Nat → Prop} {d c : Nat} {s : St} {n : Nm} (h : IsDisk w T d c s) (hn : n.length ≤ 9223372036854775807) :
    Calls Tryz.prog 149 #[dp d, nm n] w fun e w' => ∃ v, e = .returned (.tuple #[v, .int .i64 ((s.read n).1 : Int)]) ∧ Row w' w.heap.size v (s.read n).2 ∧ Below w.heap.size w w' := by
  obtain ⟨m1, m2, F1, F2, ws, G, hd, -⟩ := h.ex
  have c3 : w.cell? ⟨d, 3, none⟩ = some (.map (some m1)) := by rw [hd.cells]; rfl
  have HDown := Lib.hid (down_any hd)
  have HHas := Lib.hid (has_any c3 hd.k1 hn)
  rw [get_some hd.p1] at HHas
  have HD := Lib.hid hd
  clear h hd
  unfold St.read
  by_cases h1 : s.off = true
  · rw [if_pos h1]
    rw [h1] at HDown
    clear h1 c3 HHas
    go_enter Tryz.func149, Tryz.ntmps149
    go_wp2_with fail
    refine HDown.out.mono ?_
    rintro e w' ⟨rfl, rfl⟩
    go_wp2
    exact bodyPost_ret (v := .tuple #[.slice none 0 0, .int .i64 6]) (by simp [results, Tryz.results149, go_sem]) rfl ⟨_, rfl, row_nil _ _, Below.refl _ _⟩
  rw [if_neg h1]
  rw [show s.off = false by simpa using h1] at HDown
  clear h1
  cases hg : getA n s.now with
  | none =>
    simp only
    rw [hg] at HHas
    clear c3
    go_enter Tryz.func149, Tryz.ntmps149
    go_wp2_with fail
    refine HDown.out.mono ?_
    rintro e w' ⟨rfl, rfl⟩
    go_wp2_with fail
    refine HHas.out.mono ?_
    rintro e w' ⟨rfl, rfl⟩
    go_wp2
    exact bodyPost_ret (v := .tuple #[.slice none 0 0, .int .i64 8]) (by simp [results, Tryz.results149, go_sem]) rfl ⟨_, rfl, row_nil _ _, Below.refl _ _⟩
  | some t =>
    simp only
    rw [hg] at HHas
    have ht8 : t.length ≤ 8388608 := (HD.out.ok.fitN _ (getA_mem hg)).2
    obtain ⟨A, C, hvo, hrow⟩ := long_row HD.out.k1 (n := n) (t := t) (by rw [HD.out.p1]; exact hg)
    have hlk := look HD.out.k1 hn
    rw [hvo] at hlk
    have HClone := Lib.hid (clone_any A t.length C t w hrow.bys (by omega))
    obtain ⟨L, hL⟩ : ∃ L, L = t.length := ⟨_, rfl⟩
    rw [← hL] at hlk HClone
    clear hg hvo hrow ht8 hL
    go_enter Tryz.func149, Tryz.ntmps149
    go_wp2_with fail
    refine HDown.out.mono ?_
    rintro e w' ⟨rfl, rfl⟩
    go_wp2_with fail
    refine HHas.out.mono ?_
    rintro e w' ⟨rfl, rfl⟩
    go_wp2_with fail
    refine HClone.out.mono ?_
    rintro e w2 ⟨v, rfl, hr, hb⟩
    have HR := Lib.hid hr
    have HB := Lib.hid hb
    clear hr hb
    go_wp2
    exact bodyPost_ret (v := .tuple #[v, .int .i64 0]) (by simp [results, Tryz.results149, go_sem]) rfl ⟨_, rfl, HR.out, HB.out⟩
end Go.Proofs.YthaggdkfaglgaaaGreatDoor

/- Sync. -/
namespace Go.Proofs.YthaggdkfaglgaaaGreatDoor
set_option maxRecDepth 20000
open Go.RowKit Go.Maps DiskMath Reg

theorem burn_now (s : St) : s.burn.now = s.now := by
  unfold St.burn
  split
  · rfl
  · split <;> rfl

/-- What is left when all that waited was done to the files that were sure: nothing waits. -/
theorem sync_end {w w' : World} {d c : Nat} {s : St} {m1 m2 : Nat} {F1 F2 : Gf} {ws : Value} {G : Go8} (hd : Dk w d c s m1 m2 F1 F2 ws G) (hD : Done w d 5 m2 F2 (dC s m1 m2 ws) (doAllA s.ops s.sure) w') :
    ∃ F2', Dk (w'.setCell ⟨d, 7, none⟩ (.slice none 0 0)) d c { s with sure := s.now, ops := [] } m1 m2 F1 F2' (.slice none 0 0) [] ∧ (∀ k, foot F2' k → foot F2 k ∨ w.heap.size ≤ k) ∧ OnlyS (tk d m1 m2 F1 F2 ws G) w (w'.setCell ⟨d, 7, none⟩ (.slice none 0 0)) := by
  obtain ⟨F2', r1, r2, r3, r4, r5⟩ := hD
  have hnow : doAllA s.ops s.sure = s.now := hd.ok.now.symm
  rw [hnow] at r2 r3
  have hm1d : m1 ≠ d := hd.k1.ne_blk hd.blk
  have hk1 : Keep w' m1 F1 := by
    refine hd.k1.same (r4.block m1 hd.k1.lt ?_) fun k hf => r4.block k (hd.k1.foot_lt hf) ?_
    · rintro (h | h | ⟨p, hp, h⟩)
      · exact hm1d h
      · exact hd.ne h
      · exact hd.k1.ne (hd.k2.row p hp) h
    · rintro (h | h | h)
      · obtain ⟨p, hp, hf⟩ := hf
        exact row_ne_blk (hd.k1.row p hp) hd.blk (by decide) (by rw [hf, h])
      · obtain ⟨p, hp, hf⟩ := hf
        exact hd.k2.ne (hd.k1.row p hp) (by rw [hf, h])
      · exact hd.ap k hf h
  refine ⟨F2', {
    blk := by
      have h := Blk.set r3 7 (.slice none 0 0)
      exact h
    k1 := hk1.setBlk r3 (by decide) 7 _
    p1 := hd.p1
    k2 := r1.setBlk r3 (by decide) 7 _
    p2 := r2
    wops := ⟨World.ownsRow_nil _ _ _ _, fun p hp => by cases hp⟩
    pw := rfl
    ok := ⟨rfl, hd.ok.riseN, hd.ok.fitN, (fun o ho => by cases ho), hd.ok.fewN⟩
    small := hd.small
    ne := hd.ne
    ap := fun k h1 h2 => by
      rcases r5 k h2 with h | h
      · exact hd.ap k h1 h
      · have := hd.k1.foot_lt h1
        omega
    apo := fun p hp => by cases hp
    fuse := hd.fuse }, r5, (r4.mono fun k _ h => ?_).then (only_set w' d 7 _) fun k _ h => .inl h⟩
  rcases h with h | h | h
  · exact .inl h
  · exact .inr (.inr (.inl h))
  · exact .inr (.inr (.inr (.inr (.inl h))))

theorem tk_nil {d m1 m2 : Nat} {F1 F2 F2' : Gf} {ws : Value} {G : Go8} {N : Nat} (h : ∀ k, foot F2' k → foot F2 k ∨ N ≤ k) : ∀ k, tk d m1 m2 F1 F2' (.slice none 0 0) [] k → tk d m1 m2 F1 F2 ws G k ∨ N ≤ k := by
  intro k hk
  rcases hk with hk | hk | hk | hk | hk | hk | ⟨p, hp, _⟩
  · exact .inl (.inl hk)
  · exact .inl (.inr (.inl hk))
  · exact .inl (.inr (.inr (.inl hk)))
  · exact .inl (.inr (.inr (.inr (.inl hk))))
  · rcases h k hk with h | h
    · exact .inl (.inr (.inr (.inr (.inr (.inl h)))))
    · exact .inr h
  · simp [Value.ownBlock] at hk
  · cases hp

set_option maxHeartbeats 1000000 in
theorem sync_any {w : World} {T : Nat → Prop} {d c : Nat} {s : St} (h : IsDisk w T d c s) :
    Calls Tryz.prog 101 #[dp d] w fun e w' => e = .returned (.int .i64 ((s.sync).1 : Int)) ∧ Next w T d c (s.sync).2 w' := by
  have hself : Next w T d c s w := Next.refl h
  have hlt := h.lt
  obtain ⟨m1, m2, F1, F2, ws, G, hd, ht⟩ := h.ex
  have HDown := Lib.hid (down_any hd)
  have HBurn := Lib.hid (burn_any hd)
  have HSelf := Lib.hid hself
  have HT := Lib.hid ht
  have HLt := Lib.hid hlt
  have HSmall := Lib.hid hd.small
  have HLen : Hid (F2.length + G.length ≤ 2000) := by
    have e1 := hd.ok.few
    rw [← hd.p2, pr_length, ← hd.pw] at e1
    have e2 : (names8 G).length = G.length := by simp [names8]
    have := hd.small
    show F2.length + G.length ≤ 2000
    omega
  clear hself h hd ht hlt
  unfold St.sync
  by_cases h1 : s.off = true
  · rw [if_pos h1]
    rw [h1] at HDown
    clear h1 HBurn
    go_enter Tryz.func101, Tryz.ntmps101
    go_wp2_with fail
    refine HDown.out.mono ?_
    rintro e w' ⟨rfl, rfl⟩
    go_wp2
    go_ret
    exact ⟨rfl, HSelf.out⟩
  rw [if_neg h1]
  rw [show s.off = false by simpa using h1] at HDown
  clear h1
  by_cases h0 : s.fuse = 0
  · rw [if_pos h0]
    have hb : decide (s.fuse ≠ 0) = false := by simp [h0]
    rw [hb] at HBurn
    clear h0 hb
    go_enter Tryz.func101, Tryz.ntmps101
    go_wp2_with fail
    refine HDown.out.mono ?_
    rintro e w' ⟨rfl, rfl⟩
    go_wp2_with fail
    refine HBurn.out.mono ?_
    rintro e w2 ⟨rfl, hd2, ho2⟩
    have HN := Lib.hid (Next.of (T := T) HLt.out (ho2.mono fun k _ e => HT.out k (.inl e)) hd2 fun k hk => .inl (HT.out k hk))
    clear hd2 ho2
    go_wp2
    go_ret
    exact ⟨rfl, HN.out⟩
  · rw [if_neg h0]
    have hb : decide (s.fuse ≠ 0) = true := by simp [h0]
    rw [hb] at HBurn
    clear h0 hb
    go_enter Tryz.func101, Tryz.ntmps101
    go_wp2_with fail
    refine HDown.out.mono ?_
    rintro e w' ⟨rfl, rfl⟩
    go_wp2_with fail
    refine HBurn.out.mono ?_
    rintro e w2 ⟨rfl, hd2, ho2⟩
    have HD2 := Lib.hid hd2
    have HO2 := Lib.hid ho2
    clear hd2 ho2
    go_wp2
    refine region_tail 7 (by kernel_rfl) (by kernel_rfl) (Sames w2) (sames_drew w2) ?_
    intro W hW
    have hdW : Dk W d c s.burn m1 m2 F1 F2 ws G := HD2.out.same fun k _ => by rw [hW.heap]
    have c7 : W.cell? ⟨d, 7, none⟩ = some ws := by rw [hdW.cells]; rfl
    have HDo := Lib.hid (doAll_any (o := 5) hdW.blk rfl (by rw [hdW.p2]; rfl) hdW.k2 (by rw [hdW.p2]; exact hdW.ok.fit) (by have := HLen.out; omega) (fun p hp => hdW.ok.fitO p.1 (by rw [← hdW.pw]; exact List.mem_map_of_mem hp)) hdW.wops (fun p hp k hf e => (hdW.apo p hp k e).2 hf))
    rw [hdW.pw, hdW.p2] at HDo
    have HDW := Lib.hid hdW
    have HW := Lib.hid hW
    clear hW hdW
    simp only [List.take_succ_cons, List.take_zero, List.drop_succ_cons, List.drop_zero]
    repeat (first | go_big_quiet_skip | (go_big_quiet_want; go_big_quiet_op; go_big_quiet_on))
    refine wpQuiet_nil ?_
    go_wp2_with fail
    refine HDo.out.mono ?_
    rintro e w3 ⟨rfl, hDone⟩
    obtain ⟨F2', q1, q2, q3⟩ := sync_end HDW.out hDone
    have e3 : w3.cell? ⟨d, 7, none⟩ = some ws ∧ w3.frozen? ⟨d, 7, none⟩ = false := by
      obtain ⟨F2'', r1, r2, r3, r4, r5⟩ := hDone
      exact ⟨by rw [Blk.cell r3]; rfl, Blk.frozen r3 7⟩
    have HEnd : Hid (Next w T d c { s.burn with sure := s.now, ops := [] } (w3.setCell ⟨d, 7, none⟩ (.slice none 0 0))) := by
      have h1 : OnlyS T w W := (HO2.out.mono fun k _ e => HT.out k (.inl e)).then (HW.out.only (fun _ => False)) fun _ _ h => h.elim
      have e := congrArg (fun x => ({ s.burn with sure := x, ops := [] } : St)) (burn_now s)
      simp only at e
      rw [← e]
      refine Next.of HLt.out (h1.then q3 fun k _ h => HT.out k h) q1 fun k hk => ?_
      rcases tk_nil (ws := ws) (G := G) q2 k hk with h | h
      · exact .inl (HT.out k h)
      · exact .inr (Nat.le_trans h1.size h)
    obtain ⟨e4, f4⟩ := e3
    clear hDone q1 q2 q3 c7 HDo
    go_wp2
    go_ret
    exact ⟨rfl, HEnd.out⟩
end Go.Proofs.YthaggdkfaglgaaaGreatDoor

/- kept: what a crash leaves of what waited. -/
namespace Go.Proofs.YthaggdkfaglgaaaGreatDoor
set_option maxRecDepth 20000
open Go.RowKit Go.Maps DiskMath Reg

/-- A slice of bools, wherever it lies. -/
def Bls (w : World) (v : Value) (ks : List Bool) : Prop :=
  ∃ a cap, v = .slice a ks.length cap ∧ ∀ i b, ks[i]? = some b → ∃ ad, a = some ad ∧ w.cell? (ad.add i) = some (.bool b)

theorem Bls.below {w w' : World} {v : Value} {ks : List Bool} (h : Bls w v ks) (hb : Below w.heap.size w w') : Bls w' v ks := by
  obtain ⟨a, cap, e, hc⟩ := h
  refine ⟨a, cap, e, fun i b hi => ?_⟩
  obtain ⟨ad, e2, h1⟩ := hc i b hi
  exact ⟨ad, e2, by rw [hb.cell (World.block_lt_of_cell? w _ h1)]; exact h1⟩

def keptG : Go8 → List Bool → Go8
  | [], _ => []
  | _, [] => []
  | o :: os, k :: ks => if k then o :: keptG os ks else keptG os ks

theorem keptG_names : ∀ (G : Go8) (ks : List Bool), names8 (keptG G ks) = keptA (names8 G) ks
  | [], ks => by cases ks <;> rfl
  | o :: os, [] => rfl
  | o :: os, k :: ks => by
    have ih := keptG_names os ks
    cases k
    · simpa [keptG, keptA, names8] using ih
    · simp only [keptG, keptA, names8, if_true, List.map_cons] at ih ⊢
      rw [ih]

theorem keptG_snoc : ∀ (G : Go8) (ks : List Bool) (i : Nat) (p : AOp × Value), G[i]? = some p → keptG (G.take (i + 1)) ks = keptG (G.take i) ks ++ (if ks[i]? = some true then [p] else [])
  | [], ks, i, p, h => by simp at h
  | o :: os, [], i, p, _ => by cases i <;> simp [keptG]
  | o :: os, k :: ks, 0, p, h => by
    simp at h
    subst h
    cases k <;> cases os <;> cases ks <;> simp [keptG]
  | o :: os, k :: ks, i + 1, p, h => by
    have ih := keptG_snoc os ks i p (by simpa using h)
    cases k
    · simpa [keptG] using ih
    · simp only [List.take_succ_cons, keptG, if_true, List.cons_append, List.getElem?_cons_succ] at ih ⊢
      rw [ih]

theorem keptG_sub : ∀ (G : Go8) (ks : List Bool), ∀ p ∈ keptG G ks, p ∈ G
  | [], ks, p, h => by cases ks <;> cases h
  | o :: os, [], p, h => by cases h
  | o :: os, k :: ks, p, h => by
    cases k
    · exact List.mem_cons_of_mem _ (keptG_sub os ks p (by simpa [keptG] using h))
    · simp only [keptG, if_true] at h
      rcases List.mem_cons.1 h with rfl | h
      · simp
      · exact List.mem_cons_of_mem _ (keptG_sub os ks p h)

theorem keptG_length : ∀ (G : Go8) (ks : List Bool), (keptG G ks).length ≤ G.length
  | [], ks => by cases ks <;> simp [keptG]
  | o :: os, [] => by simp [keptG]
  | o :: os, k :: ks => by
    have := keptG_length os ks
    cases k <;> simp [keptG] <;> omega

/-- How kept ends. -/
def KeptEnd (w : World) (v : Value) (G : Go8) (w' : World) : Prop :=
  Wops w' v G ∧ (∀ k, v.ownBlock = some k → w.heap.size ≤ k) ∧ Below w.heap.size w w'

/-- Between two rounds. -/
def KeptAt (w : World) (G : Go8) (ks : List Bool) (s7 s13 : Value) (wr : World) : Prop :=
  ∃ i : Nat, i ≤ G.length ∧ s13 = .int .i64 i ∧ wr.ownsRow 0 145 5 s7 (keptG (G.take i) ks).length (cells8 (keptG (G.take i) ks)) ∧ (∀ k, s7.ownBlock = some k → w.heap.size ≤ k) ∧ Below w.heap.size w wr

theorem only_own {w W W' : World} {v : Value} (hb : Below w.heap.size w W) (hv : ∀ k, v.ownBlock = some k → w.heap.size ≤ k) (ho : OnlyS (fun k => v.ownBlock = some k) W W') : Below w.heap.size w W' :=
  ⟨ho.os.trans hb.os, ho.tape.trans hb.tape, ho.output.trans hb.output, Nat.le_trans hb.size ho.size, fun k hk => (ho.block k (Nat.lt_of_lt_of_le hk hb.size) fun e => by have := hv k e; omega).trans (hb.block k hk)⟩

theorem near_new {w W : World} {v v' : Value} (hs : w.heap.size ≤ W.heap.size) (hv : ∀ k, v.ownBlock = some k → w.heap.size ≤ k) (hn : Near W v v') : ∀ k, v'.ownBlock = some k → w.heap.size ≤ k := fun k hk => by
  rcases hn k hk with h | h
  · exact hv k h
  · omega

theorem wops_slice {w : World} {ws : Value} {G : Go8} (h : w.ownsRow 0 145 5 ws G.length (cells8 G)) : ∃ a c, ws = .slice a G.length c := by
  rcases h.2 with ⟨rfl, h0⟩ | ⟨g, cap, cur, rfl, _⟩
  · exact ⟨none, 0, by rw [h0]⟩
  · exact ⟨_, _, rfl⟩

theorem bools_index (W : World) (ad : Addr) (n cap i : Nat) (hi : i < n) : (Instr.indexAt 28 (.slice (some ad) n cap) (.int .i64 (i : Int))).run Tryz.prog W = .ok (.pointer (some (ad.add i))) W := by
  have he : Tryz.prog.elem 28 = 4 := by kernel_rfl
  have hs : (Go.sizeOf 4).run Tryz.prog W = .ok 1 W := by kernel_rfl
  have ht : Tryz.prog.underlying 28 = some (.slice (Tryz.prog.elem 28)) := by rw [he]; exact Tryz.underlying28
  rw [run_indexAt_slice (h := ht), if_pos (by omega), he, hs]
  simp [Result.andThen]

theorem Sames.setCell {w W : World} (h : Sames w W) (a : Addr) (u : Value) : Sames (w.setCell a u) (W.setCell a u) :=
  ⟨by simp [World.setCell, h.heap], h.os, h.tape, h.output⟩

theorem KeptEnd.sames {w w1 W : World} {v : Value} {G : Go8} (h : KeptEnd w v G w1) (hs : Sames w1 W) : KeptEnd w v G W :=
  ⟨h.1.below hs.below, h.2.1, h.2.2.trans (hs.below.mono h.2.2.size)⟩

theorem torn_set {wo : World} {g cap : Nat} {G0 : Go8} {k : Nat} {n q : Nm} {a : Nat} {b : List UInt8} {va : Option Addr} {vb vc Q : Nat} (h : wo.ownsRow 0 145 5 (.slice (some ⟨g, 0, none⟩) (G0.length + 1) cap) (G0.length + 1) (cells8 (G0 ++ [(⟨k, n, q, a, b⟩, .slice va vb vc)]))) :
    (wo.setCell ⟨g, G0.length * 5 + 4, none⟩ (.slice va Q vc)).ownsRow 0 145 5 (.slice (some ⟨g, 0, none⟩) (G0.length + 1) cap) (G0.length + 1) (cells8 (G0 ++ [(⟨k, n, q, a, b.take Q⟩, .slice va Q vc)])) ∧
      wo.cell? ⟨g, G0.length * 5 + 4, none⟩ = some (.slice va vb vc) ∧ wo.frozen? ⟨g, G0.length * 5 + 4, none⟩ = false := by
  have hl := cells8_length G0
  have e : (cells8 (G0 ++ [(⟨k, n, q, a, b⟩, .slice va vb vc)])).set (G0.length * 5 + 4) (.slice va Q vc) = cells8 (G0 ++ [(⟨k, n, q, a, b.take Q⟩, .slice va Q vc)]) := by
    rw [cells8_snoc, cells8_snoc, List.set_append_right _ _ (by rw [hl]; omega), hl, show G0.length * 5 + 4 - G0.length * 5 = 4 by omega]
    rfl
  have h1 := (World.ownsRow.stored h (G0.length * 5 + 4) (.slice va Q vc)).1
  rw [e] at h1
  refine ⟨h1, ?_, World.ownsRow.frozenAt h _⟩
  rw [World.ownsRow.cellAt h _ (by omega), cells8_snoc, List.getElem?_append_right (by rw [hl]; omega), hl, show G0.length * 5 + 4 - G0.length * 5 = 4 by omega]
  rfl

theorem tornA_last (torn : Int) (o : AOp) : ∀ (xs : List AOp), tornA torn (xs ++ [o]) = xs ++ [{ o with b := o.b.take (max torn 0).toNat }]
  | [] => rfl
  | [x] => rfl
  | x :: y :: r => by
    have ih := tornA_last torn o (y :: r)
    simp only [List.cons_append] at ih ⊢
    rw [tornA, ih]

set_option maxHeartbeats 1000000 in
theorem kept_any {w : World} {ws : Value} {G : Go8} {ka : Option Addr} {nk ck : Nat} {ks : List Bool} {torn : Int} (hw : Wops w ws G) (hl : G.length ≤ 2000) (hk : Bls w (.slice ka nk ck) ks) (hnk : ks.length = nk) (hnk2 : nk ≤ 9223372036854775807) :
    Calls Tryz.prog 48 #[ws, .slice ka nk ck, .int .i64 torn] w fun e w' => ∃ v G', e = .returned v ∧ names8 G' = tornA torn (keptA (names8 G) ks) ∧ (∀ p ∈ G', ∃ q ∈ G, p.2.ownBlock = q.2.ownBlock) ∧ KeptEnd w v G' w' := by
  obtain ⟨ga, gc, hws⟩ := wops_slice hw.row
  subst hws
  obtain ⟨n, hn⟩ : ∃ n, n = G.length := ⟨_, rfl⟩
  have HW := Lib.hid hw
  rw [← hn] at HW ⊢
  have HN := Lib.hid hn
  have HK := Lib.hid hk
  have HNk := Lib.hid hnk
  have hn2 : n ≤ 2000 := by omega
  clear hw hl hk hn hnk
  go_enter Tryz.func48, Tryz.ntmps48
  go_wp2
  go_loopw [7, 13] (fun s7 s13 wr => KeptAt w G ks s7 s13 wr) (fun _ s13 _ => n - (intOf s13).toNat)
  case atStart => exact ⟨0, Nat.zero_le _, rfl, by simpa [keptG, cells8] using World.ownsRow_nil w 0 145 5, fun k hk => by simp [Value.ownBlock] at hk, Below.refl _ _⟩
  case round =>
    obtain ⟨i, hi, rfl, hrow, hnew, hbel⟩ := hrel
    have hin : i ≤ n := by have := HN.out; omega
    have HR := Lib.hid hrow
    have HNew := Lib.hid hnew
    have HB := Lib.hid hbel
    clear hi hrow hnew hbel
    by_cases hlt : i < n
    · obtain ⟨p, hp⟩ : ∃ p, G[i]? = some p := ⟨G[i]'(by have := HN.out; omega), List.getElem?_eq_getElem _⟩
      have hwr := HW.out
      rw [HN.out] at hwr
      have hwr2 : Wops wr (.slice ga G.length gc) G := hwr.below HB.out
      obtain ⟨g, cap, e, -, hload⟩ := hwr2.cells i p hp
      simp at e
      obtain ⟨rfl, rfl⟩ := e
      have hidx : ∀ W, (Instr.indexAt 96 (.slice (some ⟨g, 0, none⟩) n gc) (.int .i64 (i : Int))).run Tryz.prog W = .ok (.pointer (some ⟨g, i * 5, none⟩)) W := fun W => ops_index W g n gc i hlt
      obtain ⟨j, hj⟩ : ∃ j, j = i * 5 := ⟨_, rfl⟩
      rw [← hj] at hload hidx
      have hsn := keptG_snoc G ks i p hp
      have hrowp := hwr2.text p (List.mem_of_getElem? hp)
      have HSn := Lib.hid hsn
      have HOne := Lib.hid (row_one hrowp)
      have hlen := keptG_length (G.take i) ks
      have hlen2 : (keptG (G.take i) ks).length ≤ 2000 := Nat.le_trans hlen (by rw [List.length_take]; omega)
      have HLen := Lib.hid hlen2
      obtain ⟨⟨k, nn, q, a, b⟩, v⟩ := p
      obtain ⟨va, vc, hv⟩ := slice_of_row hrowp
      simp only at hv
      subst hv
      have hcs := HOne
      simp only [opC] at hload
      have l0 := hload 0 _ rfl
      have l1 := hload 1 _ rfl
      have l2 := hload 2 _ rfl
      have l3 := hload 3 _ rfl
      have l4 := hload 4 _ rfl
      simp only [Nat.add_zero] at l0
      obtain ⟨N, hN⟩ : ∃ N, nm nn = .string N := ⟨_, rfl⟩
      obtain ⟨M, hM⟩ : ∃ M, nm q = .string M := ⟨_, rfl⟩
      rw [hN] at l1
      rw [hM] at l2
      have HOp : Hid (opC ⟨k, nn, q, a, b⟩ (.slice va b.length vc) = #[.int .i64 (k : Int), .string N, .string M, .int .i64 (a : Int), .slice va b.length vc]) := by
        show opC _ _ = _
        simp only [opC, hN, hM]
      have i0 : (0 : Int) ≤ (i : Int) := Int.natCast_nonneg _
      have i1 : (i : Int) < (n : Int) := by omega
      clear hload hp hwr hwr2 hj hsn hrowp hlen hlen2 hN hM hcs
      by_cases hik : i < nk
      · have hik1 : (i : Int) < (nk : Int) := by omega
        have hik2 : decide ((i : Int) < (nk : Int)) = true := by simpa using hik1
        obtain ⟨bb, hbb⟩ : ∃ bb, ks[i]? = some bb := ⟨ks[i]'(by have := HNk.out; omega), List.getElem?_eq_getElem _⟩
        obtain ⟨a', c', e', hcell⟩ := HK.out
        simp at e'
        obtain ⟨rfl, -, -⟩ := e'
        obtain ⟨kad, rfl, hcb⟩ := hcell i bb hbb
        have hcb0 : wr.cell? (kad.add i) = some (.bool bb) := by rw [HB.out.cell (World.block_lt_of_cell? w _ hcb)]; exact hcb
        have hcb' : (wr.alloc (.cells #[.int .i64 (k : Int), .string N, .string M, .int .i64 (a : Int), .slice va b.length vc] 145)).cell? (kad.add i) = some (.bool bb) := by
          rw [((Below.refl wr.heap.size wr).alloc (Nat.le_refl _) _).cell (World.block_lt_of_cell? wr _ hcb0)]
          exact hcb0
        have hidxb : ∀ W, (Instr.indexAt 28 (.slice (some kad) nk ck) (.int .i64 (i : Int))).run Tryz.prog W = .ok (.pointer (some (kad.add i))) W := fun W => bools_index W kad nk ck i hik
        clear hcell hcb hcb0
        cases bb with
        | true =>
          have hsn2 : keptG (G.take (i + 1)) ks = keptG (G.take i) ks ++ [(⟨k, nn, q, a, b⟩, .slice va b.length vc)] := by rw [HSn.out, hbb]; simp
          have HSn2 := Lib.hid hsn2
          clear hsn2 hbb
          have hb2 : Below wr.heap.size wr ((wr.alloc (.cells #[.int .i64 (k : Int), .string N, .string M, .int .i64 (a : Int), .slice va b.length vc] 145)).alloc (.cells #[.int .i64 (k : Int), .string N, .string M, .int .i64 (a : Int), .slice va b.length vc] 145)) := ((Below.refl _ _).alloc (Nat.le_refl _) _).alloc (by simp) _
          have A1 := Lib.hid (add_op (ownRow_same HR.out fun k hk => hb2.block k (World.ownsRow.lt HR.out k hk).2) (by have := HLen.out; omega) (x := wr.heap.size + 1) (Blk.newAt (wr.alloc (.cells #[.int .i64 (k : Int), .string N, .string M, .int .i64 (a : Int), .slice va b.length vc] 145)) 145 #[.int .i64 (k : Int), .string N, .string M, .int .i64 (a : Int), .slice va b.length vc] _ _ (by simp) rfl) rfl (by rw [← HOp.out]; exact one_op _ _ HOne.out))
          have HB2 := Lib.hid (HB.out.trans (hb2.mono HB.out.size))
          clear hb2
          go_wp2_with (at_builtin; refine wpList_append_by rfl _ _ 96 rfl _ _ rfl rfl _ A1.out ?_; rintro v' w2 ⟨q1, -, q3, q4⟩; (have Q1 := Lib.hid q1); (have Q3 := Lib.hid q3); (have Q4 := Lib.hid q4); clear q1 q3 q4)
          go_wp2
          go_roundw
          case rel =>
            refine ⟨i + 1, by have := HN.out; omega, by go_num, ?_, near_new HB2.out.size HNew.out Q4.out, only_own HB2.out HNew.out Q3.out⟩
            rw [HSn2.out, cells8_snoc, List.length_append, HOp.out]
            exact Q1.out
          case measure => simp [intOf]; omega
        | false =>
          have hsn2 : keptG (G.take (i + 1)) ks = keptG (G.take i) ks := by rw [HSn.out, hbb]; simp
          have HSn2 := Lib.hid hsn2
          clear hsn2 hbb
          go_wp2
          go_roundw
          case rel => exact ⟨i + 1, by have := HN.out; omega, by go_num, by rw [HSn2.out]; exact ownRow_same HR.out fun k hk => Below.heap_alloc _ _ _ (World.ownsRow.lt HR.out k hk).2, HNew.out, HB.out.alloc HB.out.size _⟩
          case measure => simp [intOf]; omega
      · have hsn2 : keptG (G.take (i + 1)) ks = keptG (G.take i) ks := by
          rw [HSn.out, List.getElem?_eq_none (by have := HNk.out; omega)]
          simp
        have HSn2 := Lib.hid hsn2
        have hik2 : decide ((i : Int) < (nk : Int)) = false := by simp; omega
        clear hsn2
        go_wp2
        go_roundw
        case rel => exact ⟨i + 1, by have := HN.out; omega, by go_num, by rw [HSn2.out]; exact ownRow_same HR.out fun k hk => Below.heap_alloc _ _ _ (World.ownsRow.lt HR.out k hk).2, HNew.out, HB.out.alloc HB.out.size _⟩
        case measure => simp [intOf]; omega
    · obtain rfl : i = n := by omega
      obtain ⟨wo, rfl⟩ : ∃ wo : World, wo = wr := ⟨_, rfl⟩
      have hr := HR.out
      rw [List.take_of_length_le (by have := HN.out; omega)] at hr
      obtain ⟨G1, hG1⟩ : ∃ G1, G1 = keptG G ks := ⟨_, rfl⟩
      rw [← hG1] at hr
      have HG1 := Lib.hid hG1
      have hl1 : G1.length ≤ 2000 := by
        have := keptG_length G ks
        rw [← hG1] at this
        have := HN.out
        omega
      have HW0 : Hid (Wops w (.slice ga G.length gc) G) := by
        have h := HW.out
        rw [HN.out] at h
        exact h
      have htx : ∀ p ∈ G1, Row wo 0 p.2 p.1.b ∧ p ∈ G := fun p hp => by
        have hpG : p ∈ G := keptG_sub G ks p (by rw [← hG1]; exact hp)
        exact ⟨(HW0.out.text p hpG).below HB.out, hpG⟩
      have HTx := Lib.hid htx
      rcases List.eq_nil_or_concat G1 with rfl | ⟨G0, p, hcon⟩
      · have HEnd : Hid (∃ v G', u7 = v ∧ names8 G' = tornA torn (keptA (names8 G) ks) ∧ (∀ p ∈ G', ∃ q ∈ G, p.2.ownBlock = q.2.ownBlock) ∧ KeptEnd w v G' wo) :=
          ⟨u7, [], rfl, by rw [← keptG_names, ← HG1.out]; rfl, (fun p hp => by cases hp), ⟨hr, fun p hp => by cases hp⟩, HNew.out, HB.out⟩
        obtain ⟨la, lc, hu7⟩ := wops_slice hr
        subst hu7
        clear hr HR htx hG1 HTx HG1
        go_wp2
        go_ret
        obtain ⟨v, G', h1, h2⟩ := HEnd.out
        exact ⟨v, G', by rw [← h1]; rfl, h2⟩
      · rw [List.concat_eq_append] at hcon
        have hlen : G1.length = G0.length + 1 := by rw [hcon]; simp
        have hpG := htx p (by rw [hcon]; simp)
        have hr1 := hr
        obtain ⟨g, cap, rfl⟩ : ∃ g cap, u7 = .slice (some ⟨g, 0, none⟩) G1.length cap := by
          rcases hr.2 with ⟨_, h0⟩ | ⟨g, cap, cur, h, _⟩
          · omega
          · exact ⟨g, cap, h⟩
        obtain ⟨va, vc, hv, hvc⟩ := row_form hpG.1
        obtain ⟨⟨k, nn, q, a, b⟩, v⟩ := p
        simp only at hv hvc
        subst hv
        obtain ⟨Q, hQ⟩ : ∃ Q, Q = min (max torn 0).toNat b.length := ⟨_, rfl⟩
        rw [hlen, hcon] at hr
        rw [hlen] at hr1 ⊢
        obtain ⟨q1, q2, q3⟩ := torn_set (Q := Q) hr
        have hnewg : w.heap.size ≤ g := HNew.out g rfl
        have hbend : Below w.heap.size w (wo.setCell ⟨g, G0.length * 5 + 4, none⟩ (.slice va Q vc)) := ⟨HB.out.os, HB.out.tape, HB.out.output, by simpa [World.setCell] using HB.out.size, fun j hj => by rw [heap_setCell_other wo ⟨g, G0.length * 5 + 4, none⟩ j _ (by show j ≠ g; omega)]; exact HB.out.block j hj⟩
        have hgop : ∀ (u : Value) (t : List UInt8), Row wo 0 u t → Row (wo.setCell ⟨g, G0.length * 5 + 4, none⟩ (.slice va Q vc)) 0 u t := fun u t hu => hu.same fun j hj => heap_setCell_other wo ⟨g, G0.length * 5 + 4, none⟩ j _ fun e => by
          obtain ⟨cur, hc⟩ := hu.block hj
          obtain ⟨cur', hc'⟩ := ownRow_block hr (k := g) rfl
          rw [show j = g from e, hc'] at hc
          simp at hc
        have hQb : b.take (max torn 0).toNat = b.take Q := by
          rw [hQ]
          rcases Nat.le_total (max torn 0).toNat b.length with h | h
          · rw [Nat.min_eq_left h]
          · rw [Nat.min_eq_right h, List.take_of_length_le h, List.take_length]
        have HEnd : Hid (∃ G', names8 G' = tornA torn (keptA (names8 G) ks) ∧ (∀ p ∈ G', ∃ q ∈ G, p.2.ownBlock = q.2.ownBlock) ∧ KeptEnd w (.slice (some ⟨g, 0, none⟩) (G0.length + 1) cap) G' (wo.setCell ⟨g, G0.length * 5 + 4, none⟩ (.slice va Q vc))) := by
          refine ⟨G0 ++ [(⟨k, nn, q, a, b.take Q⟩, .slice va Q vc)], ?_, fun p hp => ?_, ⟨?_, fun p hp => ?_⟩, ?_, hbend⟩
          · rw [← keptG_names, ← HG1.out, hcon, names8, List.map_append, names8, List.map_append]
            show names8 G0 ++ [_] = tornA torn (names8 G0 ++ [_])
            rw [tornA_last]
            simp only
            rw [hQb]
          · rcases List.mem_append.1 hp with hp | hp
            · exact ⟨p, (htx p (by rw [hcon]; exact List.mem_append_left _ hp)).2, rfl⟩
            · obtain rfl := List.mem_singleton.1 hp
              exact ⟨_, hpG.2, own_len va Q b.length vc⟩
          · rw [List.length_append]
            exact q1
          · rcases List.mem_append.1 hp with hp | hp
            · exact hgop _ _ (htx p (by rw [hcon]; exact List.mem_append_left _ hp)).1
            · obtain rfl := List.mem_singleton.1 hp
              exact hgop _ _ (hpG.1.take Q (by omega))
          · intro j hj
            simp [Value.ownBlock] at hj
            omega
        have hidx : ∀ W, (Instr.indexAt 96 (.slice (some ⟨g, 0, none⟩) (G0.length + 1) cap) (.int .i64 ((G0.length : Int) + 1 - 1))).run Tryz.prog W = .ok (.pointer (some ⟨g, G0.length * 5, none⟩)) W := fun W => by
          rw [show (G0.length : Int) + 1 - 1 = ((G0.length : Nat) : Int) by omega]
          exact ops_index W g (G0.length + 1) cap G0.length (by omega)
        obtain ⟨L, hL⟩ : ∃ L, L = G0.length := ⟨_, rfl⟩
        obtain ⟨lb, hlb⟩ : ∃ lb, lb = b.length := ⟨_, rfl⟩
        obtain ⟨tt, htt⟩ : ∃ tt, tt = max torn 0 := ⟨_, rfl⟩
        rw [← hL] at hlen hidx HEnd q2 q3 ⊢
        rw [← hlb] at q2 hQ hvc
        rw [← htt] at hQ
        have hL2 : L ≤ 2000 := by omega
        have hmax : ∀ (ts : Array TypeId) (ty : TypeId) (W : World), (Builtin.max_ ts ty #[.int .i64 torn, .int .i64 0]).run Tryz.prog W = .ok (.int .i64 tt) W := fun ts ty W => by
          have e : (if (0 : Int) > torn then 0 else torn) = tt := by omega
          rw [run_max_int2, e]
        have hmin : ∀ (ts : Array TypeId) (ty : TypeId) (W : World), (Builtin.min_ ts ty #[.int .i64 tt, .int .i64 (lb : Int)]).run Tryz.prog W = .ok (.int .i64 (Q : Int)) W := fun ts ty W => by
          rw [run_min_int2]
          congr 2
          omega
        have hsl : ∀ W, (Instr.sliceAt 27 (.slice va lb vc) none (some (.int .i64 (Q : Int))) none).run Tryz.prog W = .ok (.slice va Q vc) W := slice_to va lb vc Q (by omega)
        have ha1 : ((L + 1 : Nat) : Int) = (L : Int) + 1 := by omega
        clear hr HR htx hG1 HTx HG1 hpG hr1 hcon q1 hbend hgop hQb hQ hvc hlb htt hL hnewg hlen
        go_wp2
        refine region_tail 16 (by kernel_rfl) (by kernel_rfl) (Sames wo) (sames_drew wo) ?_
        intro W hW
        have d2 : W.cell? ⟨g, L * 5 + 4, none⟩ = some (.slice va lb vc) := by rw [World.cell?_of_block (w := wo) (by rw [hW.heap])]; exact q2
        have d3 : W.frozen? ⟨g, L * 5 + 4, none⟩ = false := by rw [World.frozen?_of_block (w := wo) (by rw [hW.heap])]; exact q3
        have HW' := Lib.hid hW
        clear hW q2 q3
        simp only [List.take_succ_cons, List.take_zero, List.drop_succ_cons, List.drop_zero]
        repeat (first | go_big_quiet_skip | (go_big_quiet_want; go_big_quiet_op; go_big_quiet_on))
        refine wpQuiet_nil ?_
        go_wp2
        go_ret
        obtain ⟨G', h1, h2, h3⟩ := HEnd.out
        exact ⟨_, G', rfl, h1, h2, h3.sames (HW'.out.setCell _ _)⟩
end Go.Proofs.YthaggdkfaglgaaaGreatDoor

/- copied: the same files in memory of their own, in whatever order the map gives them. -/
namespace Go.Proofs.YthaggdkfaglgaaaGreatDoor
set_option maxRecDepth 20000
open Go.RowKit Go.Maps DiskMath Reg

theorem grown_below {w w' : World} (h : Below w.heap.size w w') : w.grownBy w' none := ⟨h.os, h.tape, h.output, h.size, fun k hk _ => h.block k hk⟩
theorem grown_only {w w' : World} {m : Nat} (h : OnlyS (fun k => k = m) w w') : w.grownBy w' (some m) := ⟨h.os, h.tape, h.output, h.size, fun k hk hne => h.block k hk fun e => hne (by rw [e])⟩

theorem eq_of_get {α : Type} {l l' : List (Nm × α)} (h : Rise l) (h' : Rise l') (hg : ∀ n, getA n l = getA n l') : l = l' := by
  refine eq_of_rise h h' fun p => ⟨fun hp => ?_, fun hp => ?_⟩
  · have := getA_of_mem h (show (p.1, p.2) ∈ l from hp)
    rw [hg] at this
    exact getA_mem this
  · have := getA_of_mem h' (show (p.1, p.2) ∈ l' from hp)
    rw [← hg] at this
    exact getA_mem this

/-- What has been copied: those that are no longer to come. -/
structure CopyAt (w : World) (m m' r g2 g3 : Nat) (F : Gf) (T : Int) (left : Lit → Bool) (cnt : Nat) (F' : Gf) (wr : World) : Prop where
  rng : wr.ranges Tryz.prog 9 tokR m r F.length (encD F) left cnt
  keep : Keep wr m' F'
  get : ∀ n, getA n (pr F') = if left (.string n) then none else getA n (pr F)
  new : ∀ k, foot F' k → w.heap.size ≤ k
  few : F'.length + cnt ≤ F.length
  g3b : Blk wr g3 95 #[.map (some m'), .int .i64 T]
  g2b : Blk wr g2 95 #[.map none, .int .i64 0]
  bel : Below w.heap.size w wr

theorem load_map (W : World) (p : Addr) (v : Value) (h : W.cell? p = some v) : (Instr.loadAt 93 (.pointer (some p))).run Tryz.prog W = .ok v W := by
  have hagg : (isAgg 93).run Tryz.prog W = .ok false W := by kernel_rfl
  simp [Instr.loadAt, Instr.sureAddr, loadVar, Sem.run_bind, hagg, h]
theorem load_int (W : World) (p : Addr) (v : Value) (h : W.cell? p = some v) : (Instr.loadAt 3 (.pointer (some p))).run Tryz.prog W = .ok v W := by
  have hagg : (isAgg 3).run Tryz.prog W = .ok false W := by kernel_rfl
  simp [Instr.loadAt, Instr.sureAddr, loadVar, Sem.run_bind, hagg, h]

theorem run_make (W : World) (k : Int) : (Instr.makeMap 93 (some (.int .i64 k))).run Tryz.prog W = .ok (.map (some W.heap.size)) (W.alloc (.map #[] 0)) := by
  simp [Instr.makeMap, run_underlying Tryz.underlying93, asInt, asIntOf, Result.andThen]

set_option maxHeartbeats 1000000 in
theorem copied_any {w : World} {d o m : Nat} {F : Gf} {T : Int} (c0 : w.cell? ⟨d, o, none⟩ = some (.map (some m))) (c1 : w.cell? ⟨d, o + 1, none⟩ = some (.int .i64 T)) (hk : Keep w m F) (hf : Fit (pr F)) (hl : F.length ≤ 4095) :
    Calls Tryz.prog 49 #[fp d o] w fun e w' => ∃ m' F', e = .returned (.agg #[.map (some m'), .int .i64 T]) ∧ Keep w' m' F' ∧ pr F' = pr F ∧ (∀ k, foot F' k → w.heap.size ≤ k) ∧ w.heap.size ≤ m' ∧ Below w.heap.size w w' := by
  have hd := World.block_lt_of_cell? w ⟨d, o, none⟩ c0
  have C0 := Lib.hid c0
  have C1 := Lib.hid c1
  have HK := Lib.hid hk
  have HF := Lib.hid hf
  clear hk c0 c1 hf
  go_enter Tryz.func49, Tryz.ntmps49
  go_wp2
  obtain ⟨w1, hw1⟩ : ∃ w1, w1 = w.alloc (.cells #[.map none, .int .i64 0] 95) := ⟨_, rfl⟩
  have hb1 : Below w.heap.size w w1 := by rw [hw1]; exact (Below.refl _ _).alloc (Nat.le_refl _) _
  have hg2 : Blk w1 w.heap.size 95 #[.map none, .int .i64 0] := by rw [hw1]; exact Blk.new w _ _
  rw [← hw1]
  have HB1 := Lib.hid hb1
  have HG2 := Lib.hid hg2
  clear hb1 hg2 hw1
  have hG : ∀ W W' : World, Below w1.heap.size w1 W → Below W.heap.size W W' → Below w1.heap.size w1 W' := fun W W' h h' => h.trans (h'.mono h.size)
  refine region_tail_by 12 _ [(6, .is (fp d o)), (7, .is (fp d o)), (8, .is (fp d o)), (9, .is (.map (some m))), (10, .is (.int .i64 (F.length : Int))), (11, .sat (fun u W => ∃ m', u = .map (some m') ∧ Keep W m' [] ∧ w1.heap.size ≤ m') (fun u W W' ⟨m', h1, h2, h3⟩ hb => ⟨m', h1, h2.below hb, h3⟩)), (12, .is (fp d o)), (13, .is (fp d o)), (14, .is (.pointer (some ⟨d, o + 1, none⟩))), (15, .is (.int .i64 T)),
    (16, .sat (fun u W => ∃ m', u = .agg #[.map (some m'), .int .i64 T] ∧ Keep W m' [] ∧ w1.heap.size ≤ m') (fun u W W' ⟨m', h1, h2, h3⟩ hb => ⟨m', h1, h2.below hb, h3⟩)), (3, .sat (fun u W => ∃ g, u = .pointer (some ⟨g, 0, none⟩) ∧ Blk W g 95 #[.map none, .int .i64 0] ∧ w1.heap.size ≤ g) (fun u W W' ⟨g, h1, h2, h3⟩ hb => ⟨g, h1, h2.keep hb, h3⟩))] [0, 2, 3, 16]
    (fun W => Below w1.heap.size w1 W) (by kernel_rfl) (by kernel_rfl) (by kernel_rfl) (by kernel_rfl) (by kernel_rfl) rfl rfl rfl rfl (by kernel_rfl) (Below.refl _ _).drew ?_ ?_
  · refine ⟨?c0, ?c1, ?c2, ?c3, ?c4, ?c5, ?c6, ?c7, ?c8, ?c9, ?c10, ?c11, trivial⟩
    case c0 => exact ask_copy (guard_none rfl) (.tmp 0) (.inl rfl) (by intro k hk; cases hk; rfl)
    case c1 => exact ask_exec (guard_none rfl) (fp d o) rfl rfl (by intro k hk; cases hk; rfl) (fun W hW => by kernel_rfl)
    case c2 => exact ask_field (guard_none rfl) _ (.tmp 7) 0 (fp d o) (fp d o) rfl rfl (by intro k hk; cases hk; rfl) (fun W => by kernel_rfl)
    case c3 => exact ask_load (guard_none rfl) _ (.tmp 8) (fp d o) (.map (some m)) rfl rfl (by intro k hk; cases hk; rfl) (fun W hW => load_map W _ _ (by rw [hW.cell (Nat.lt_of_lt_of_le hd HB1.out.size), HB1.out.cell hd]; exact C0.out))
    case c4 => exact ask_val (guard_none rfl) (.int .i64 (F.length : Int)) (by intro k hk; cases hk; rfl) (fun x W hW hk => by
      have e9 : x 9 = .map (some m) := hk 9 rfl
      have hr := ((HK.out.below HB1.out).below hW).map.len Tryz.underlying93 3
      rw [encD_size] at hr
      simp [execOp, evalBy, resolve, invoke, builtin, e9, hr, Result.andThen])
    case c5 => exact ask_grow hG (guard_none rfl) (fun x W hW hk => by
      have e10 : x 10 = .int .i64 (F.length : Int) := hk 10 rfl
      refine gives_value (v := .map (some W.heap.size)) (w' := W.alloc (.map #[] 0)) ?_ ⟨(Below.refl _ _).alloc (Nat.le_refl _) _, fun k hk => by cases hk; exact ⟨_, rfl, keep_new W, hW.size⟩⟩
      simp [execOp, evalBy, e10, run_make, Result.andThen])
    case c6 => exact ask_copy (guard_none rfl) (.tmp 0) (.inl rfl) (by intro k hk; cases hk; rfl)
    case c7 => exact ask_exec (guard_none rfl) (fp d o) rfl rfl (by intro k hk; cases hk; rfl) (fun W hW => by kernel_rfl)
    case c8 => exact ask_field (guard_none rfl) _ (.tmp 13) 1 (fp d o) (.pointer (some ⟨d, o + 1, none⟩)) rfl rfl (by intro k hk; cases hk; rfl) (fun W => by kernel_rfl)
    case c9 => exact ask_load (guard_none rfl) _ (.tmp 14) (.pointer (some ⟨d, o + 1, none⟩)) (.int .i64 T) rfl rfl (by intro k hk; cases hk; rfl) (fun W hW => load_int W _ _ (by rw [hW.cell (p := ⟨d, o + 1, none⟩) (Nat.lt_of_lt_of_le hd HB1.out.size), HB1.out.cell (p := ⟨d, o + 1, none⟩) hd]; exact C1.out))
    case c10 => exact ask_grow hG (guard_none rfl) (fun x W hW hk => by
      obtain ⟨m', e11, h1, h2⟩ : ∃ m', x 11 = .map (some m') ∧ Keep W m' [] ∧ w1.heap.size ≤ m' := hk 11 rfl
      have e15 : x 15 = .int .i64 T := hk 15 rfl
      refine gives_value (v := .agg #[.map (some m'), .int .i64 T]) (w' := W) ?_ ⟨Below.refl _ _, fun k hk => by cases hk; exact ⟨m', rfl, h1, h2⟩⟩
      have hr : (Instr.build 95 #[(0, .map (some m')), (1, .int .i64 T)]).run Tryz.prog W = .ok (.agg #[.map (some m'), .int .i64 T]) W := by kernel_rfl
      simp [execOp, evalBy, e11, e15, hr, Result.andThen])
    case c11 => exact ask_alloc hG (guard_none rfl) _ (.agg #[.map none, .int .i64 0]) (.sat (fun u W => ∃ g, u = .pointer (some ⟨g, 0, none⟩) ∧ Blk W g 95 #[.map none, .int .i64 0] ∧ w1.heap.size ≤ g) (fun u W W' ⟨g, h1, h2, h3⟩ hb => ⟨g, h1, h2.keep hb, h3⟩)) rfl (fun W => by kernel_rfl) (by intro k hk; cases hk; rfl) (fun W hW => ⟨_, rfl, Blk.new W _ _, hW.size⟩)
  · intro a' W hW hd' hs' hf'
    have t0 : a'.tmps.getD 0 undef = fp d o := hf' 0 rfl
    have t2 : a'.tmps.getD 2 undef = .pointer (some ⟨w.heap.size, 0, none⟩) := hf' 2 rfl
    obtain ⟨g3, t3, hg3, hn3⟩ : ∃ g, a'.tmps.getD 3 undef = .pointer (some ⟨g, 0, none⟩) ∧ Blk W g 95 #[.map none, .int .i64 0] ∧ w1.heap.size ≤ g := hf' 3 rfl
    obtain ⟨m', t16, hm', hnm⟩ : ∃ m', a'.tmps.getD 16 undef = .agg #[.map (some m'), .int .i64 T] ∧ Keep W m' [] ∧ w1.heap.size ≤ m' := hf' 16 rfl
    obtain ⟨us, hus, ha'⟩ := act_open 33 a' hs' hd'
    rw [← hus] at t0 t2 t3 t16
    have el : ((List.range 33).map us).toArray = #[us 0, us 1, us 2, us 3, us 4, us 5, us 6, us 7, us 8, us 9, us 10, us 11, us 12, us 13, us 14, us 15, us 16, us 17, us 18, us 19, us 20, us 21, us 22, us 23, us 24, us 25, us 26, us 27, us 28, us 29, us 30, us 31, us 32] := rfl
    rw [el] at ha'
    subst ha'
    rw [t0, t2, t3, t16]
    have HWb := Lib.hid hW
    have HG3 := Lib.hid hg3
    have HM := Lib.hid hm'
    clear hus t0 t2 t3 t16 el hf' hs' hd' hW hg3 hm' hG
    refine wpList_store_row rfl 95 (.tmp 3) (.tmp 16) rfl g3 #[.map (some m'), .int .i64 T] rfl rfl 95 _ HG3.out (by kernel_rfl) rfl (by simp [Value.oneCell']) ?_
    obtain ⟨W2, hW2⟩ : ∃ W2, W2 = W.setRow g3 #[.map (some m'), .int .i64 T] := ⟨_, rfl⟩
    have hs1 := HB1.out.size
    have hbel2 : Below w.heap.size w W2 := by rw [hW2]; exact below_setRow (HB1.out.trans (HWb.out.mono hs1)) g3 _ (by omega)
    have hg32 : Blk W2 g3 95 #[.map (some m'), .int .i64 T] := by rw [hW2]; exact Blk.row HG3.out _
    have hg2lt : w.heap.size < w1.heap.size := HG2.out.lt
    have hg22 : Blk W2 w.heap.size 95 #[.map none, .int .i64 0] := by rw [hW2]; exact Blk.rowOther (HG2.out.keep HWb.out) _ (by omega)
    have hm2 : Keep W2 m' [] := by rw [hW2]; exact HM.out.same (setRow_other W g3 m' _ (HM.out.ne_blk HG3.out)) fun k ⟨p, hp, _⟩ => by cases hp
    rw [← hW2]
    have HBel2 := Lib.hid hbel2
    have HG32 := Lib.hid hg32
    have HG22 := Lib.hid hg22
    have HM2 := Lib.hid hm2
    have hm2l := hm2.lt
    have hg3l := hg32.lt
    have c2 : W2.cell? ⟨d, o, none⟩ = some (.map (some m)) := by rw [hbel2.cell hd]; exact C0.out
    have hml := HK.out.lt
    have hownW := (HK.out.below hbel2).map
    have HOwn := Lib.hid hownW
    clear hW2 hbel2 hg32 hg22 hm2 hownW HG3 HM
    go_wp2_with (first
      | (at_range; refine wpList_range_own _ rfl _ 93 rfl 9 27 klaw Tryz.underlying93 _ m F.length _ rfl HOwn.out ?_; intro w0 hrg0 hg0 hs0)
      | go_in)
    go_frame
    obtain ⟨r, hr⟩ : ∃ r, r = W2.heap.size := ⟨_, rfl⟩
    rw [← hr] at hrg0 ⊢
    have hb0 : Below W2.heap.size W2 w0 := ⟨hg0.os, hg0.tape, hg0.output, hg0.size, fun k hk => hg0.block k hk (by simp)⟩
    have hs2 := HBel2.out.size
    have HStart : Hid (CopyAt w m m' r w.heap.size g3 F T (Maps.has (encD F)) (Maps.size (encD F)) [] w0) := {
      rng := hrg0
      keep := HM2.out.below hb0
      get := fun n => by
        have h : getA n (pr F) = (getA n F).map (·.2) := pr_get F n
        rw [encD_has, h]
        show (none : Option (List UInt8)) = _
        cases getA n F <;> simp
      new := fun k ⟨p, hp, _⟩ => by cases hp
      few := by rw [encD_size]; simp
      g3b := HG32.out.keep hb0
      g2b := HG22.out.keep hb0
      bel := HBel2.out.trans (hb0.mono hs2) }
    have hrw : w.heap.size ≤ r := by omega
    have hm'r : m' ≠ r := by omega
    have hg3r : g3 ≠ r := by omega
    have hg2r : w.heap.size ≠ r := by omega
    have hmr : m ≠ r := by omega
    have hmm' : m ≠ m' := by omega
    clear hrg0 hg0 hb0 c2 HOwn hs0 hr
    go_loopw [4] (fun _ wr => ∃ left cnt F', CopyAt w m m' r w.heap.size g3 F T left cnt F' wr) (fun _ wr => wr.rangeLeft m r)
    case atStart => exact ⟨_, _, _, HStart.out⟩
    case round =>
      obtain ⟨left, cnt, F', hcp⟩ := hrel
      have HCp := Lib.hid hcp
      clear hcp
      go_wp2_with (first
        | (at_next; refine wpList_next_ranges _ rfl _ rfl 9 klaw tokR nm (fun v : Value => v) (fun key kl hkey => by obtain ⟨x, hx, _⟩ := Maps.keyOf_str Tryz.underlying9 hkey; exact ⟨x, hx⟩) (fun v y _ => ⟨v, rfl⟩) m r F.length _ _ _ rfl HCp.out.rng ?_ ?_)
        | go_in)
      · intro hc0 hl0
        have hpr : pr F' = pr F := eq_of_get HCp.out.keep.riseP HK.out.riseP fun n => by rw [HCp.out.get, hl0]; simp
        have e0 : wr.cell? ⟨g3, 0, none⟩ = some (.map (some m')) := by rw [Blk.cell HCp.out.g3b]; rfl
        have e1 : wr.cell? ⟨g3, 1, none⟩ = some (.int .i64 T) := by rw [Blk.cell HCp.out.g3b]; rfl
        have HEnd : Hid (∃ F', Keep (wr.setRow w.heap.size #[.map (some m'), .int .i64 T]) m' F' ∧ pr F' = pr F ∧ (∀ k, foot F' k → w.heap.size ≤ k) ∧ w.heap.size ≤ m' ∧ Below w.heap.size w (wr.setRow w.heap.size #[.map (some m'), .int .i64 T])) :=
          ⟨F', HCp.out.keep.same (setRow_other wr w.heap.size m' _ (HCp.out.keep.ne_blk HCp.out.g2b)) (fun k hf => setRow_other wr w.heap.size k _ (foot_ne HCp.out.keep HCp.out.g2b (by decide) hf)), hpr, HCp.out.new, by omega, below_setRow HCp.out.bel _ _ (Nat.le_refl _)⟩
        have HG2e := Lib.hid HCp.out.g2b
        clear hl0 hpr hc0
        go_wp2_with (first
          | (refine wpList_store_row rfl 95 (.tmp 2) (.tmp 32) rfl w.heap.size #[.map (some m'), .int .i64 T] rfl rfl 95 _ HG2e.out (by kernel_rfl) rfl (by simp [Value.oneCell']) ?_)
          | go_in)
        obtain ⟨F'', h2⟩ := HEnd.out
        exact bodyPost_ret (v := .agg #[.map (some m'), .int .i64 T]) (results_cell_row rfl _ _ w.heap.size 95 #[.map (some m'), .int .i64 T] (0, 0) _ rfl (Blk.row HG2e.out _) Tryz.underlying95 rfl (by kernel_rfl)) rfl ⟨m', F'', rfl, h2⟩
      · intro x c kl yd yp w2 cnt2 hkey hlk hv hat hrg2 hlt2 hg2' hs2' hen
        obtain ⟨x', ex, rfl, hxl⟩ := Maps.keyOf_str Tryz.underlying9 hkey
        obtain rfl : x = x' := encStr_inj ex
        have hyd : yd = .held c := by
          unfold tokR at hv
          simp at hv
          exact hv.1.symm
        obtain ⟨t, hgt⟩ : ∃ t, getA x F = some (c, t) := by
          have h := hat .nil
          rw [encD_at, hyd] at h
          cases hg : getA x F with
          | none => rw [hg] at h; simp at h
          | some y =>
            rw [hg] at h
            simp at h
            exact ⟨y.2, by rw [← h]⟩
        have hrow0 := HK.out.row _ (getA_mem hgt)
        simp only at hrow0
        have hbw2 : Below w.heap.size w w2 := HCp.out.bel.grown hg2' HCp.out.bel.size (fun j hj => by cases hj; exact hrw)
        have hrow2 : Row w2 0 c t := hrow0.below hbw2
        obtain ⟨ca, cc, rfl⟩ := slice_of_row hrow2
        have ht8 : t.length ≤ 8388608 := (HF.out _ (getA_mem (pr_some hgt))).2
        have hx16 : x.length ≤ 16 := (HF.out _ (getA_mem (pr_some hgt))).1
        have hkeep2 : Keep w2 m' F' := HCp.out.keep.same (hg2'.block m' HCp.out.keep.lt (by simpa using hm'r)) fun k hf => hg2'.block k (HCp.out.keep.foot_lt hf) fun e => by
          obtain ⟨p, hp, h1⟩ := hf
          obtain ⟨cur, hc⟩ := (HCp.out.keep.row p hp).block h1
          obtain ⟨es, clock, since, seen, c0, _, _, _, _, hr', _⟩ := HCp.out.rng
          simp at e
          rw [e, hr'] at hc
          cases hc
        have hg32' : Blk w2 g3 95 #[.map (some m'), .int .i64 T] := by
          have h := HCp.out.g3b
          unfold Blk at h ⊢
          rw [hg2'.block g3 (Array.getElem?_eq_some_iff.1 h).1 (by simpa using hg3r)]
          exact h
        have hg22' : Blk w2 w.heap.size 95 #[.map none, .int .i64 0] := by
          have h := HCp.out.g2b
          unfold Blk at h ⊢
          rw [hg2'.block w.heap.size (Array.getElem?_eq_some_iff.1 h).1 (by simpa using hg2r)]
          exact h
        have HK2 := Lib.hid hkeep2
        have HG3' := Lib.hid hg32'
        have HG2' := Lib.hid hg22'
        have HBw2 := Lib.hid hbw2
        have HRow2 := Lib.hid hrow2
        have HRg2 := Lib.hid hrg2
        have HGt := Lib.hid hgt
        obtain ⟨L, hL⟩ : ∃ L, L = t.length := ⟨_, rfl⟩
        rw [← hL] at hen HRow2 ⊢
        have HL := Lib.hid hL
        have HLk := Lib.hid hlk
        have HX16 := Lib.hid hx16
        have HT8 := Lib.hid ht8
        obtain ⟨N, hN⟩ : ∃ N, N = nm x := ⟨_, rfl⟩
        rw [← hN] at hen ⊢
        have HNe := Lib.hid hN
        clear hkey hlk hv hat ex hxl hyd hrow0 hbw2 hrow2 ht8 hx16 hkeep2 hg32' hg22' hg2' hrg2 hgt hL hN
        go_wp2
        have hGb : ∀ W W' : World, Below w2.heap.size w2 W → Below W.heap.size W W' → Below w2.heap.size w2 W' := fun W W' h h' => h.trans (h'.mono h.size)
        refine region_tail_by 5 _ [(27, .is (.pointer (some ⟨g3, 0, none⟩))), (28, .is (.map (some m'))), (29, .is N), (30, .is (.slice ca L cc)), (31, .sat (fun u W => Row W 0 u t ∧ ∀ k, u.ownBlock = some k → w2.heap.size ≤ k) (fun u W W' ⟨h1, h2⟩ hb => ⟨h1.below hb, h2⟩))] [0, 1, 2, 3, 6, 7, 8, 9, 10, 11, 12, 13, 14, 15, 16, 17, 18, 19, 20, 21, 32, 28, 29, 31]
          (fun W => Below w2.heap.size w2 W) (by kernel_rfl) (by kernel_rfl) (by kernel_rfl) (by kernel_rfl) (by kernel_rfl) rfl rfl rfl rfl (by kernel_rfl) (Below.refl _ _).drew ?_ ?_
        · refine ⟨?c0, ?c1, ?c2, ?c3, ?c4, trivial⟩
          case c0 => exact ask_field (guard_none rfl) _ (.tmp 3) 0 (.pointer (some ⟨g3, 0, none⟩)) (.pointer (some ⟨g3, 0, none⟩)) rfl rfl (by intro k hk; cases hk; rfl) (fun W => by kernel_rfl)
          case c1 => exact ask_load (guard_none rfl) _ (.tmp 27) (.pointer (some ⟨g3, 0, none⟩)) (.map (some m')) rfl rfl (by intro k hk; cases hk; rfl) (fun W hW => load_map W _ _ (by rw [Blk.cell (HG3'.out.keep hW)]; rfl))
          case c2 => exact ask_copy (guard_none rfl) (.tmp 4) (.inl rfl) (by intro k hk; cases hk; rfl)
          case c3 => exact ask_copy (guard_none rfl) (.tmp 5) (.inl rfl) (by intro k hk; cases hk; rfl)
          case c4 => exact ask_call hGb (guard_none rfl) _ _ _ #[.slice ca L cc] (.sat (fun u W => Row W 0 u t ∧ ∀ k, u.ownBlock = some k → w2.heap.size ≤ k) (fun u W W' ⟨h1, h2⟩ hb => ⟨h1.below hb, h2⟩)) rfl (by kernel_rfl) rfl rfl (by intro k hk; cases hk; rfl) (fun W hW => (clone_any ca L cc t W (HRow2.out.below hW).bys (by have := HT8.out; omega)).mono fun e w' h => by
            obtain ⟨u, h1, h2, h3⟩ := h
            exact ⟨u, h1, ⟨row_lower0 h2, fun k hk => Nat.le_trans hW.size (h2.lt hk).1⟩, h3⟩)
        · intro a2 W3 hW3 hd2 hs2 hf2
          have t0 : a2.tmps.getD 0 undef = fp d o := hf2 0 rfl
          have t1 : a2.tmps.getD 1 undef = us 1 := hf2 1 rfl
          have t2 : a2.tmps.getD 2 undef = .pointer (some ⟨w.heap.size, 0, none⟩) := hf2 2 rfl
          have t3 : a2.tmps.getD 3 undef = .pointer (some ⟨g3, 0, none⟩) := hf2 3 rfl
          have t6 : a2.tmps.getD 6 undef = us 6 := hf2 6 rfl
          have t7 : a2.tmps.getD 7 undef = us 7 := hf2 7 rfl
          have t8 : a2.tmps.getD 8 undef = us 8 := hf2 8 rfl
          have t9 : a2.tmps.getD 9 undef = us 9 := hf2 9 rfl
          have t10 : a2.tmps.getD 10 undef = us 10 := hf2 10 rfl
          have t11 : a2.tmps.getD 11 undef = us 11 := hf2 11 rfl
          have t12 : a2.tmps.getD 12 undef = us 12 := hf2 12 rfl
          have t13 : a2.tmps.getD 13 undef = us 13 := hf2 13 rfl
          have t14 : a2.tmps.getD 14 undef = us 14 := hf2 14 rfl
          have t15 : a2.tmps.getD 15 undef = us 15 := hf2 15 rfl
          have t16 : a2.tmps.getD 16 undef = .agg #[.map (some m'), .int .i64 T] := hf2 16 rfl
          have t17 : a2.tmps.getD 17 undef = fp d o := hf2 17 rfl
          have t18 : a2.tmps.getD 18 undef = fp d o := hf2 18 rfl
          have t19 : a2.tmps.getD 19 undef = fp d o := hf2 19 rfl
          have t20 : a2.tmps.getD 20 undef = .map (some m) := hf2 20 rfl
          have t21 : a2.tmps.getD 21 undef = .pointer (some ⟨r, 0, none⟩) := hf2 21 rfl
          have t32 : a2.tmps.getD 32 undef = us 32 := hf2 32 rfl
          have t28 : a2.tmps.getD 28 undef = .map (some m') := hf2 28 rfl
          have t29 : a2.tmps.getD 29 undef = N := hf2 29 rfl
          obtain ⟨t31, hnew31⟩ : Row W3 0 (a2.tmps.getD 31 undef) t ∧ ∀ k, (a2.tmps.getD 31 undef).ownBlock = some k → w2.heap.size ≤ k := hf2 31 rfl
          obtain ⟨vs, hvs, ha2⟩ := act_open 33 a2 hs2 hd2
          rw [← hvs] at t0 t1 t2 t3 t6 t7 t8 t9 t10 t11 t12 t13 t14 t15 t16 t17 t18 t19 t20 t21 t32 t28 t29 t31 hnew31
          have el2 : ((List.range 33).map vs).toArray = #[vs 0, vs 1, vs 2, vs 3, vs 4, vs 5, vs 6, vs 7, vs 8, vs 9, vs 10, vs 11, vs 12, vs 13, vs 14, vs 15, vs 16, vs 17, vs 18, vs 19, vs 20, vs 21, vs 22, vs 23, vs 24, vs 25, vs 26, vs 27, vs 28, vs 29, vs 30, vs 31, vs 32] := rfl
          rw [el2] at ha2
          subst ha2
          rw [t0, t1, t2, t3, t6, t7, t8, t9, t10, t11, t12, t13, t14, t15, t16, t17, t18, t19, t20, t21, t32, t28, t29]
          obtain ⟨q, hq⟩ : ∃ q, q = vs 31 := ⟨_, rfl⟩
          rw [← hq] at t31 hnew31 ⊢
          obtain ⟨w4, hr4, hk4, ho4⟩ := store (n := x) ((HK2.out.below hW3).but _) (by have := HX16.out; omega) (by have := HCp.out.few; omega) t31 (fun p hp hne k hk hk2 => by
            have h1 := hnew31 k hk
            have h2 := ((HK2.out.row p hp).lt hk2).2
            omega)
          rw [← HNe.out] at hr4
          have hm2lt := HK2.out.lt
          have hW4 : Below w2.heap.size w2 W3 := hW3
          have HEnd : Hid (CopyAt w m m' r w.heap.size g3 F T (fun z => left z && !z.sameKey (.string x)) cnt2 (putA x (q, t) F') w4) := {
            rng := (HRg2.out.kept (grown_below hW3) (by simp) (by simp)).kept (grown_only ho4) (by simpa using hmm') (by simpa using (Ne.symm hm'r))
            keep := hk4
            get := fun n => by
              rw [pr_put]
              by_cases hn : n = x
              · subst hn
                rw [getA_put_same HCp.out.keep.riseP]
                have e : (left (.string n) && !(Lit.string n).sameKey (.string n)) = false := by simp [Lit.sameKey]
                rw [e, pr_some HGt.out]
                rfl
              · rw [getA_put_other HCp.out.keep.riseP hn, HCp.out.get]
                have e : (Lit.string n).sameKey (.string x) = false := by simpa [Lit.sameKey] using hn
                rw [e]
                simp
            new := fun k hk => by
              rcases foot_put hk with h | h
              · exact Nat.le_trans HBw2.out.size (hnew31 k h)
              · exact HCp.out.new k h
            few := by
              have h1 := length_put (n := x) (a := (q, t)) (l := F')
              have h2 := HCp.out.few
              omega
            g3b := (HG3'.out.keep hW3).only ho4 (by intro h; exact HK2.out.ne_blk HG3'.out h.symm)
            g2b := (HG2'.out.keep hW3).only ho4 (by intro h; exact HK2.out.ne_blk HG2'.out h.symm)
            bel := by
              have hb3 := HBw2.out.trans (hW3.mono HBw2.out.size)
              exact ⟨ho4.os.trans hb3.os, ho4.tape.trans hb3.tape, ho4.output.trans hb3.output, Nat.le_trans hb3.size ho4.size, fun k hk => (ho4.block k (Nat.lt_of_lt_of_le hk hb3.size) (by intro h; omega)).trans (hb3.block k hk)⟩ }
          obtain ⟨qa, qc, hqe⟩ := slice_of_row t31
          rw [hqe] at hr4 HEnd ⊢
          have HMeas : Hid (w4.rangeLeft m r < wr.rangeLeft m r) := by
            show w4.rangeLeft m r < wr.rangeLeft m r
            rw [HEnd.out.rng.left_eq, HCp.out.rng.left_eq]
            exact hlt2
          clear t31 hnew31 hq hqe hk4 ho4 hW4 hm2lt hvs t0 t1 t2 t3 t6 t7 t8 t9 t10 t11 t12 t13 t14 t15 t16 t17 t18 t19 t20 t21 t32 t28 t29 el2 hf2 hs2 hd2 hW3 hGb hen hs2'
          go_wp2
          go_roundw
          case rel => exact ⟨_, _, _, _, _, _, _, _, _, _, _, _, ⟨_, _, _, HEnd.out⟩, rfl⟩
          case measure => exact HMeas.out
end Go.Proofs.YthaggdkfaglgaaaGreatDoor

/- Crash. -/
namespace Go.Proofs.YthaggdkfaglgaaaGreatDoor
set_option maxRecDepth 20000
open Go.RowKit Go.Maps DiskMath Reg

theorem torn_length (torn : Int) : ∀ l : List AOp, (tornA torn l).length = l.length
  | [] => rfl
  | [o] => rfl
  | o :: o' :: os => by
    have := torn_length torn (o' :: os)
    simp only [tornA, List.length_cons] at this ⊢
    omega

theorem keptA_length : ∀ (l : List AOp) (ks : List Bool), (keptA l ks).length ≤ l.length
  | [], ks => by cases ks <;> simp [keptA]
  | o :: os, [] => by simp [keptA]
  | o :: os, k :: ks => by
    have := keptA_length os ks
    cases k <;> simp [keptA] <;> omega

theorem keptA_sub : ∀ (l : List AOp) (ks : List Bool), ∀ p ∈ keptA l ks, p ∈ l
  | [], ks, p, h => by cases ks <;> cases h
  | o :: os, [], p, h => by cases h
  | o :: os, k :: ks, p, h => by
    cases k
    · exact List.mem_cons_of_mem _ (keptA_sub os ks p (by simpa [keptA] using h))
    · simp only [keptA, if_true] at h
      rcases List.mem_cons.1 h with rfl | h
      · simp
      · exact List.mem_cons_of_mem _ (keptA_sub os ks p h)

theorem fit_torn (torn : Int) : ∀ l : List AOp, (∀ o ∈ l, FitO o) → ∀ o ∈ tornA torn l, FitO o
  | [], _, o, h => by cases h
  | [x], hl, o, h => by
    obtain rfl := List.mem_singleton.1 h
    obtain ⟨h0, h1, h2, h3, h4, h5, h6, h7⟩ := hl x (by simp)
    refine ⟨h0, h1, h2, h3, h4, ?_, fun hk => ?_, h7⟩
    · show (x.b.take _).length ≤ 4194304
      rw [List.length_take]
      omega
    · show x.b.take _ = []
      rw [h6 hk]
      simp
  | x :: y :: os, hl, o, h => by
    rcases List.mem_cons.1 h with rfl | h
    · exact hl _ (by simp)
    · exact fit_torn torn (y :: os) (fun o ho => hl o (List.mem_cons_of_mem _ ho)) o h

theorem names8_mem {G : Go8} {p : AOp × Value} (h : p ∈ G) : p.1 ∈ names8 G := List.mem_map_of_mem h

/-- What is left when the files were done anew, copied and laid into the disk. -/
theorem crash_end {w W W2 W3 : World} {T : Nat → Prop} {d c : Nat} {s : St} {m1 m2 m' : Nat} {F1 F2 F' : Gf} {ws : Value} {G : Go8} {ks : List Bool} {torn : Int} (hd : Dk w d c s m1 m2 F1 F2 ws G) (ht : ∀ k, tk d m1 m2 F1 F2 ws G k → T k) (hlt : ∀ k, T k → k < w.heap.size)
    (hW : Below w.heap.size w W) (hD : Done W d 5 m2 F2 (dC s m1 m2 ws) (doAllA (tornA torn (keptA s.ops ks)) s.sure) W2) (hk' : Keep W3 m' F') (hp' : pr F' = doAllA (tornA torn (keptA s.ops ks)) s.sure) (hn' : ∀ k, foot F' k → W2.heap.size ≤ k) (hm' : W2.heap.size ≤ m') (hb3 : Below W2.heap.size W2 W3) :
    Next w T d c (s.crash ks torn) (((((W3.setCell ⟨d, 3, none⟩ (.map (some m'))).setCell ⟨d, 4, none⟩ (.int .i64 (tot (doAllA (tornA torn (keptA s.ops ks)) s.sure) : Int))).setCell ⟨d, 7, none⟩ (.slice none 0 0)).setCell ⟨d, 1, none⟩ (.bool false)).setCell ⟨d, 2, none⟩ (.int .i64 (-1))) := by
  obtain ⟨F2', r1, r2, r3, r4, r5⟩ := hD
  obtain ⟨l, hl⟩ : ∃ l, l = doAllA (tornA torn (keptA s.ops ks)) s.sure := ⟨_, rfl⟩
  have hcr : s.crash ks torn = ⟨l, l, [], s.room, -1, false⟩ := by rw [hl]; rfl
  rw [← hl] at r2 r3 hp' ⊢
  have b3 := r3.keep hb3
  have b4 := Blk.set b3 3 (.map (some m'))
  have b5 := Blk.set b4 4 (.int .i64 (tot l : Int))
  have b6 := Blk.set b5 7 (.slice none 0 0)
  have b7 := Blk.set b6 1 (.bool false)
  have b8 := Blk.set b7 2 (.int .i64 (-1))
  have hops : ∀ o ∈ tornA torn (keptA s.ops ks), FitO o := fit_torn torn _ fun o ho => hd.ok.fitO o (keptA_sub _ _ o ho)
  have hset : ∀ {m : Nat} {F : Gf}, Keep W3 m F → Keep (((((W3.setCell ⟨d, 3, none⟩ (.map (some m'))).setCell ⟨d, 4, none⟩ (.int .i64 (tot l : Int))).setCell ⟨d, 7, none⟩ (.slice none 0 0)).setCell ⟨d, 1, none⟩ (.bool false)).setCell ⟨d, 2, none⟩ (.int .i64 (-1))) m F := fun h =>
    ((((h.setBlk b3 (by decide) 3 _).setBlk b4 (by decide) 4 _).setBlk b5 (by decide) 7 _).setBlk b6 (by decide) 1 _).setBlk b7 (by decide) 2 _
  have hs2 := hW.size
  have hs3 := r4.size
  have hO1 : OnlyS T w W2 := (OnlyS.of_below (S := T) hW fun k hk _ => hk).then r4 fun k _ h => by
    rcases h with h | h | h
    · exact ht k (.inl h)
    · exact ht k (.inr (.inr (.inl h)))
    · exact ht k (.inr (.inr (.inr (.inr (.inl h)))))
  have hO2 : OnlyS T w W3 := hO1.then (OnlyS.of_below (S := fun _ => False) hb3 fun k hk _ => hk) fun _ _ h => h.elim
  have hTd := ht d (.inl rfl)
  have hO3 : OnlyS T w (((((W3.setCell ⟨d, 3, none⟩ (.map (some m'))).setCell ⟨d, 4, none⟩ (.int .i64 (tot l : Int))).setCell ⟨d, 7, none⟩ (.slice none 0 0)).setCell ⟨d, 1, none⟩ (.bool false)).setCell ⟨d, 2, none⟩ (.int .i64 (-1))) :=
    ((((hO2.setCell (p := ⟨d, 3, none⟩) (fun _ => hTd) _).setCell (p := ⟨d, 4, none⟩) (fun _ => hTd) _).setCell (p := ⟨d, 7, none⟩) (fun _ => hTd) _).setCell (p := ⟨d, 1, none⟩) (fun _ => hTd) _).setCell (p := ⟨d, 2, none⟩) (fun _ => hTd) _
  refine Next.of (m1 := m') (m2 := m2) (F1 := F') (F2 := F2') (ws := .slice none 0 0) (G := []) hlt hO3 ?_ fun k hk => ?_
  · rw [hcr]
    exact {
      blk := b8
      k1 := hset hk'
      p1 := hp'
      k2 := hset (r1.below hb3)
      p2 := r2
      wops := ⟨World.ownsRow_nil _ _ _ _, fun p hp => by cases hp⟩
      pw := rfl
      ok := ⟨rfl, by show Rise l; rw [hl]; exact rise_doAll _ _ hd.ok.rise, by show Fit l; rw [hl]; exact fit_doAll _ _ hd.ok.fit hops, (fun o ho => by cases ho), by
        show l.length + 0 ≤ c
        rw [hl]
        have h1 := length_doAll (tornA torn (keptA s.ops ks)) s.sure
        rw [torn_length] at h1
        have h2 := keptA_length s.ops ks
        have h3 := hd.ok.few
        omega⟩
      small := hd.small
      ne := by
        have := r1.lt
        omega
      ap := fun k h1 h2 => by
        have := hn' k h1
        have := r1.foot_lt h2
        omega
      apo := fun p hp => by cases hp
      fuse := by show -1 ≤ (-1 : Int) ∧ (-1 : Int) ≤ 9223372036854775807; omega }
  · rcases hk with h | h | h | h | h | h | ⟨p, hp, _⟩
    · rw [h]; exact .inl hTd
    · right; omega
    · rw [h]; exact .inl (ht m2 (.inr (.inr (.inl rfl))))
    · have := hn' k h
      right; omega
    · rcases r5 k h with h | h
      · exact .inl (ht k (.inr (.inr (.inr (.inr (.inl h))))))
      · right; omega
    · simp [Value.ownBlock] at h
    · cases hp

set_option maxHeartbeats 1000000 in
theorem crash_any {w : World} {T : Nat → Prop} {d c : Nat} {s : St} {ka : Option Addr} {nk ck : Nat} {ks : List Bool} {torn : Int} (h : IsDisk w T d c s) (hk : Bls w (.slice ka nk ck) ks) (hnk : ks.length = nk) (hnk2 : nk ≤ 9223372036854775807) :
    Calls Tryz.prog 16 #[dp d, .slice ka nk ck, .int .i64 torn] w fun e w' => e = .returned (.tuple #[]) ∧ Next w T d c (s.crash ks torn) w' := by
  have hlt := h.lt
  obtain ⟨m1, m2, F1, F2, ws, G, hd, ht⟩ := h.ex
  have HD := Lib.hid hd
  have HT := Lib.hid ht
  have HLt := Lib.hid hlt
  have HKs := Lib.hid hk
  have HNk := Lib.hid hnk
  have hdl := hd.blk.lt
  have HLen : Hid (F2.length + G.length ≤ 2000) := by
    have e1 := hd.ok.few
    rw [← hd.p2, pr_length, ← hd.pw] at e1
    have e2 : (names8 G).length = G.length := by simp [names8]
    have := hd.small
    show F2.length + G.length ≤ 2000
    omega
  clear h hd ht hlt hk hnk
  go_enter Tryz.func16, Tryz.ntmps16
  go_wp2
  have hG : ∀ W W' : World, Below w.heap.size w W → Below W.heap.size W W' → Below w.heap.size w W' := fun W W' h h' => h.trans (h'.mono h.size)
  refine region_tail_to 10 _ [(8, .is (dp d)), (9, .is (dp d)), (10, .is (.pointer (some ⟨d, 5, none⟩))), (11, .is (dp d)), (12, .is (dp d)), (13, .is (.pointer (some ⟨d, 7, none⟩))), (14, .is ws), (15, .is (.slice ka nk ck)), (16, .is (.int .i64 torn)),
    (17, .sat (fun u W => ∃ G', names8 G' = tornA torn (keptA (names8 G) ks) ∧ (∀ p ∈ G', ∃ q ∈ G, p.2.ownBlock = q.2.ownBlock) ∧ Wops W u G') (fun u W W' ⟨G', h1, h2, h3⟩ hb => ⟨G', h1, h2, h3.below hb⟩))] [0, 10, 17]
    (fun W => Below w.heap.size w W) (by kernel_rfl) (by kernel_rfl) (by kernel_rfl) (by kernel_rfl) (by kernel_rfl) rfl rfl rfl (by intro k hk h; cases h; cases hk) (by kernel_rfl) (Below.refl _ _).drew ?_ ?_
  · refine ⟨?c0, ?c1, ?c2, ?c3, ?c4, ?c5, ?c6, ?c7, ?c8, ?c9, trivial⟩
    case c0 => exact ask_copy (guard_none rfl) (.tmp 0) (.inl rfl) (by intro k hk; cases hk; rfl)
    case c1 => exact ask_exec (guard_none rfl) (dp d) rfl rfl (by intro k hk; cases hk; rfl) (fun W hW => by kernel_rfl)
    case c2 => exact ask_field (guard_none rfl) _ (.tmp 9) 4 (dp d) (.pointer (some ⟨d, 5, none⟩)) rfl rfl (by intro k hk; cases hk; rfl) (fun W => by kernel_rfl)
    case c3 => exact ask_copy (guard_none rfl) (.tmp 0) (.inl rfl) (by intro k hk; cases hk; rfl)
    case c4 => exact ask_exec (guard_none rfl) (dp d) rfl rfl (by intro k hk; cases hk; rfl) (fun W hW => by kernel_rfl)
    case c5 => exact ask_field (guard_none rfl) _ (.tmp 12) 5 (dp d) (.pointer (some ⟨d, 7, none⟩)) rfl rfl (by intro k hk; cases hk; rfl) (fun W => by kernel_rfl)
    case c6 => exact ask_load (guard_none rfl) _ (.tmp 13) (.pointer (some ⟨d, 7, none⟩)) ws rfl rfl (by intro k hk; cases hk; rfl) (fun W hW => load_ops W _ _ (by rw [hW.cell (p := ⟨d, 7, none⟩) hdl, HD.out.cells]; rfl))
    case c7 => exact ask_copy (guard_none rfl) (.tmp 1) (.inl rfl) (by intro k hk; cases hk; rfl)
    case c8 => exact ask_copy (guard_none rfl) (.tmp 2) (.inl rfl) (by intro k hk; cases hk; rfl)
    case c9 => exact ask_call hG (guard_none rfl) _ _ _ #[ws, .slice ka nk ck, .int .i64 torn] (.sat (fun u W => ∃ G', names8 G' = tornA torn (keptA (names8 G) ks) ∧ (∀ p ∈ G', ∃ q ∈ G, p.2.ownBlock = q.2.ownBlock) ∧ Wops W u G') (fun u W W' ⟨G', h1, h2, h3⟩ hb => ⟨G', h1, h2, h3.below hb⟩)) rfl (by kernel_rfl) rfl rfl (by intro k hk; cases hk; rfl) (fun W hW => (kept_any (HD.out.wops.below hW) (by have := HLen.out; omega) (HKs.out.below hW) HNk.out hnk2).mono fun e w' h => by
      obtain ⟨v, G', h1, h2, h3, h4⟩ := h
      exact ⟨v, h1, ⟨G', h2, h3, h4.1⟩, h4.2.2⟩)
  · intro a' W hW hd' hs' hf'
    have t0 : a'.tmps.getD 0 undef = dp d := hf' 0 rfl
    have t10 : a'.tmps.getD 10 undef = .pointer (some ⟨d, 5, none⟩) := hf' 10 rfl
    obtain ⟨G', g1, g2, g3⟩ : ∃ G', names8 G' = tornA torn (keptA (names8 G) ks) ∧ (∀ p ∈ G', ∃ q ∈ G, p.2.ownBlock = q.2.ownBlock) ∧ Wops W (a'.tmps.getD 17 undef) G' := hf' 17 rfl
    obtain ⟨us, hus, ha'⟩ := act_open 35 a' hs' hd'
    rw [← hus] at t0 t10 g3
    have el : ((List.range 35).map us).toArray = #[us 0, us 1, us 2, us 3, us 4, us 5, us 6, us 7, us 8, us 9, us 10, us 11, us 12, us 13, us 14, us 15, us 16, us 17, us 18, us 19, us 20, us 21, us 22, us 23, us 24, us 25, us 26, us 27, us 28, us 29, us 30, us 31, us 32, us 33, us 34] := rfl
    rw [el] at ha'
    subst ha'
    rw [t0, t10]
    have hdW : Dk W d c s m1 m2 F1 F2 ws G := HD.out.same fun k hk => hW.block k (HD.out.lt hk)
    have hg' : names8 G' = tornA torn (keptA s.ops ks) := by rw [g1, hdW.pw]
    have hGl : G'.length ≤ G.length := by
      have e1 := congrArg List.length g1
      rw [torn_length] at e1
      have e2 := keptA_length (names8 G) ks
      simp only [names8, List.length_map] at e1 e2
      omega
    have hdo := doAll_any (o := 5) hdW.blk rfl (by rw [hdW.p2]; rfl) hdW.k2 (by rw [hdW.p2]; exact hdW.ok.fit) (by have := HLen.out; omega) (fun p hp => fit_torn torn _ (fun o ho => hdW.ok.fitO o (keptA_sub _ ks o ho)) p.1 (by rw [← hg']; exact names8_mem hp)) g3 (fun p hp k hf e => by
      obtain ⟨q, hq, e2⟩ := g2 p hp
      exact (hdW.apo q hq k (by rw [← e2]; exact e)).2 hf)
    rw [hg', hdW.p2] at hdo
    have HDo := Lib.hid hdo
    have HW := Lib.hid hW
    clear hus t0 t10 g1 g2 g3 el hf' hs' hd' hW hdW hg' hGl hdo hG
    go_wp2_with fail
    refine HDo.out.mono ?_
    rintro e W2 ⟨rfl, hDone⟩
    have HDone := Lib.hid hDone
    clear hDone HDo
    have hsz := HDone.out
    obtain ⟨F2', r1, r2, r3, r4, r5⟩ := hsz
    have hd2l := r3.lt
    have hl2 : (doAllA (tornA torn (keptA s.ops ks)) s.sure).length ≤ 2000 := by
      have h1 := length_doAll (tornA torn (keptA s.ops ks)) s.sure
      rw [torn_length] at h1
      have h2 := keptA_length s.ops ks
      have h3 := HD.out.ok.few
      have := HD.out.small
      omega
    have hF2l : F2'.length ≤ 2000 := by
      have e1 := congrArg List.length r2
      rw [pr_length] at e1
      omega
    have hcp := copied_any (d := d) (o := 5) (m := m2) (F := F2') (T := (tot (doAllA (tornA torn (keptA s.ops ks)) s.sure) : Int)) (by rw [Blk.cell r3]; rfl) (by rw [Blk.cell r3]; rfl) r1 (by rw [r2]; exact fit_doAll _ _ HD.out.ok.fit (fit_torn torn _ fun o ho => HD.out.ok.fitO o (keptA_sub _ _ o ho))) (by omega)
    rw [r2] at hcp
    have hcells : ∀ W3 : World, Below W2.heap.size W2 W3 → ∀ i x, ((dC s m1 m2 ws).setIfInBounds (5 + 1) (.int .i64 (tot (doAllA (tornA torn (keptA s.ops ks)) s.sure) : Int)))[i]? = some x → W3.cell? ⟨d, i, none⟩ = some x ∧ W3.frozen? ⟨d, i, none⟩ = false := fun W3 hb i x hx => ⟨by rw [Blk.cell (r3.keep hb)]; exact hx, Blk.frozen (r3.keep hb) i⟩
    have HCells := Lib.hid hcells
    have HCp := Lib.hid hcp
    clear r1 r2 r3 r4 r5 hl2 hF2l hcp hcells
    obtain ⟨TT, hTT⟩ : ∃ TT : Int, TT = (tot (doAllA (tornA torn (keptA s.ops ks)) s.sure) : Int) := ⟨_, rfl⟩
    rw [← hTT] at HCp
    have HTT := Lib.hid hTT
    clear hTT
    go_wp2_with fail
    refine HCp.out.mono ?_
    rintro e W3 ⟨m', F', rfl, q1, q2, q3, q4, q5⟩
    have x1 := HCells.out W3 q5 1 _ rfl
    have x2 := HCells.out W3 q5 2 _ rfl
    have x3 := HCells.out W3 q5 3 _ rfl
    have x4 := HCells.out W3 q5 4 _ rfl
    have x7 := HCells.out W3 q5 7 _ rfl
    obtain ⟨x1, y1⟩ := x1
    obtain ⟨x2, y2⟩ := x2
    obtain ⟨x3, y3⟩ := x3
    obtain ⟨x4, y4⟩ := x4
    obtain ⟨x7, y7⟩ := x7
    have hend := crash_end HD.out HT.out HLt.out HW.out HDone.out q1 q2 q3 q4 q5
    rw [← HTT.out] at hend
    have HEnd := Lib.hid hend
    clear hend q1 q2 q3 q4 q5 HCells
    go_wp2
    go_end0
    exact ⟨rfl, HEnd.out⟩
end Go.Proofs.YthaggdkfaglgaaaGreatDoor

