/- New, Write, Cut, Remove, Rename, Sync, Read. -/
import Derived.Test.YtboongdoggggoaaDiskRun
namespace Go.Proofs.Ytboongdoggggoaa
set_option maxRecDepth 20000
open Go.RowKit Go.Maps DiskMath Reg

set_option maxHeartbeats 1000000 in
theorem new_any (w : World) (room : Int) : Calls Try.prog 41 #[.int .i64 room] w fun e w' => ∃ d, e = .returned (dp d) ∧ IsDisk w' (fun k => w.heap.size ≤ k ∧ k < w'.heap.size) d 0 (St.new room) ∧ Below w.heap.size w w' := by
  have hmax : ∀ (ts : Array TypeId) (ty : TypeId) (W : World), (Builtin.max_ ts ty #[.int .i64 room, .int .i64 0]).run Try.prog W = .ok (.int .i64 (max room 0)) W := fun ts ty W => by
    have e : (if (0 : Int) > room then 0 else room) = max room 0 := by omega
    rw [run_max_int2, e]
  go_enter Try.func41, Try.ntmps41
  go_wp2_with fail
  refine (noFiles_any w).mono ?_
  rintro e w1 ⟨m1, rfl, k1, b1, n1⟩
  have K1 := Lib.hid k1
  have B1 := Lib.hid b1
  clear k1 b1
  go_wp2_with fail
  refine (noFiles_any w1).mono ?_
  rintro e w2 ⟨m2, rfl, k2, b2, n2⟩
  have K2 := Lib.hid k2
  have B2 := Lib.hid b2
  clear k2 b2
  go_wp2
  go_ret
  have hb3 : Below w2.heap.size w2 (w2.alloc (.cells #[.int .i64 (max room 0), .bool false, .int .i64 (-1), .map (some m1), .int .i64 0, .map (some m2), .int .i64 0, .slice none 0 0] 123)) := (Below.refl _ _).alloc (Nat.le_refl _) _
  have hm1 := K1.out.lt
  have hs1 := B1.out.size
  have hs2 := B2.out.size
  have hm2 := K2.out.lt
  have hbel := (B1.out.trans (B2.out.mono hs1)).trans (hb3.mono (Nat.le_trans hs1 hs2))
  refine ⟨w2.heap.size, rfl, ⟨⟨m1, m2, [], [], .slice none 0 0, [], ?_, ?_⟩, fun k hk => hk.2⟩, hbel⟩
  · exact {
      blk := by
        have e : dC (St.new room) m1 m2 (.slice none 0 0) = #[.int .i64 (max room 0), .bool false, .int .i64 (-1), .map (some m1), .int .i64 0, .map (some m2), .int .i64 0, .slice none 0 0] := rfl
        rw [e]
        exact Blk.new w2 _ _
      k1 := (K1.out.below B2.out).below hb3
      p1 := rfl
      k2 := K2.out.below hb3
      p2 := rfl
      wops := ⟨World.ownsRow_nil _ _ _ _, (fun p hp => by cases hp)⟩
      pw := rfl
      ok := ⟨rfl, List.Pairwise.nil, (fun p hp => by cases hp), (fun o ho => by cases ho), Nat.le_refl _⟩
      small := by omega
      ne := by omega
      ap := fun k h => by obtain ⟨p, hp, _⟩ := h; cases hp
      apo := fun p hp => by cases hp
      fuse := by show -1 ≤ (-1 : Int) ∧ (-1 : Int) ≤ 9223372036854775807; omega }
  · intro k hk
    rcases hk with rfl | rfl | rfl | ⟨p, hp, _⟩ | ⟨p, hp, _⟩ | hk | ⟨p, hp, _⟩
    · exact ⟨by omega, by simp⟩
    · exact ⟨n1, by simp; omega⟩
    · exact ⟨by omega, by simp; omega⟩
    · cases hp
    · cases hp
    · simp [Value.ownBlock] at hk
    · cases hp

theorem named_len {n : Nm} (h : named n = true) : n.length ≤ 16 := by
  unfold named at h
  simp at h
  exact h.1.2

theorem row_lower0 {w : World} {B : Nat} {v : Value} {l : List UInt8} (h : Row w B v l) : Row w 0 v l := by
  refine ⟨h.1, ?_⟩
  rcases h.2 with h0 | ⟨g, cap, cur, h1, _, h3⟩
  · exact .inl h0
  · exact .inr ⟨g, cap, cur, h1, Nat.zero_le _, h3⟩

/-- What run leaves, told of the disk. -/
theorem RunEnd.next {w W w' : World} {T : Nat → Prop} {d c : Nat} {s : St} {m1 m2 : Nat} {F1 F2 : Gf} {ws : Value} {G : Go8} {v : Value} (h : RunEnd W d c s m1 m2 F1 F2 ws G v w') (hlt : ∀ k, T k → k < w.heap.size) (ht : ∀ k, tk d m1 m2 F1 F2 ws G k → T k)
    (hb : Below w.heap.size w W) (hv : ∀ k, v.ownBlock = some k → w.heap.size ≤ k) : Next w T d c s w' := by
  obtain ⟨⟨F1', ws', G', h1, h2⟩, h3⟩ := h
  refine Next.of hlt ((OnlyS.of_below (S := T) hb fun k hk _ => hk).then h3 fun k _ hk => ht k hk) h1 fun k hk => ?_
  rcases h2 k hk with h | h | h
  · exact .inl (ht k h)
  · exact .inr (hv k h)
  · exact .inr (Nat.le_trans hb.size h)

theorem run_next {w W : World} {T : Nat → Prop} {d c : Nat} {s : St} {m1 m2 : Nat} {F1 F2 : Gf} {ws v : Value} {G : Go8} {op : AOp} (hd : Dk w d c s m1 m2 F1 F2 ws G) (ht : ∀ k, tk d m1 m2 F1 F2 ws G k → T k) (hlt : ∀ k, T k → k < w.heap.size) (hc : c + 1 ≤ 2000) (ho : FitO op)
    (hb : Below w.heap.size w W) (hv : Row W w.heap.size v op.b) : Calls Try.prog 136 #[dp d, .agg (opC op v)] W fun e w' => e = .returned (.int .i64 (s.said : Int)) ∧ Next w T d (c + 1) (s.run op) w' := by
  refine (run_any (hd.same fun k hk => hb.block k (hd.lt hk)) hc ho (row_lower0 hv) fun k hk => ⟨fun hf => ?_, fun hf => ?_⟩).mono ?_
  · have := (hv.lt hk).1
    have := hd.k1.foot_lt hf
    omega
  · have := (hv.lt hk).1
    have := hd.k2.foot_lt hf
    omega
  · rintro e w' ⟨rfl, h⟩
    exact ⟨rfl, h.next hlt ht hb fun k hk => (hv.lt hk).1⟩

set_option maxHeartbeats 1000000 in
theorem write_any {w : World} {T : Nat → Prop} {d c : Nat} {s : St} {n : Nm} {a : Int} {ab : Option Addr} {lb cb : Nat} {b : List UInt8} (h : IsDisk w T d c s) (hc : c + 1 ≤ 2000) (hn : n.length ≤ 9223372036854775807) (ha : -9223372036854775808 ≤ a ∧ a ≤ 9223372036854775807)
    (hb : Bys w (.slice ab lb cb) b) (hlb : b.length = lb) (hl : lb ≤ 4194304) :
    Calls Try.prog 130 #[dp d, nm n, .int .i64 a, .slice ab lb cb] w fun e w' => e = .returned (.int .i64 ((s.write n a b).1 : Int)) ∧ Next w T d (c + 1) (s.write n a b).2 w' := by
  have hself : Next w T d (c + 1) s w := (Next.refl h).mono (Nat.le_succ c) hc
  have hlt := h.lt
  obtain ⟨m1, m2, F1, F2, ws, G, hd, ht⟩ := h.ex
  have HDown := Lib.hid (down_any hd)
  have HName := Lib.hid (isName_any n w hn)
  have HSelf := Lib.hid hself
  have HD := Lib.hid hd
  have HT := Lib.hid ht
  have HLt := Lib.hid hlt
  have HBy := Lib.hid hb
  have HLb := Lib.hid hlb
  have c0 : w.cell? ⟨d, 0, none⟩ = some (.int .i64 (max s.room 0)) := by rw [hd.cells]; rfl
  have hoff : ∀ b', s.off = b' → True := fun _ _ => trivial
  clear hoff
  unfold St.write
  clear hself h hd ht hlt hb hlb
  by_cases h1 : s.off = true
  · rw [if_pos h1]
    rw [h1] at HDown
    clear h1 HName c0
    go_enter Try.func130, Try.ntmps130
    go_wp2_with fail
    refine HDown.out.mono ?_
    rintro e w' ⟨rfl, rfl⟩
    go_wp2
    go_ret
    exact ⟨rfl, HSelf.out⟩
  rw [if_neg h1]
  have h1' : s.off = false := by simpa using h1
  rw [h1'] at HDown
  by_cases h2 : named n = false
  · rw [h2] at HName ⊢
    clear h1 h1' c0 h2
    go_enter Try.func130, Try.ntmps130
    go_wp2_with fail
    refine HDown.out.mono ?_
    rintro e w' ⟨rfl, rfl⟩
    go_wp2_with fail
    refine HName.out.mono ?_
    rintro e w' ⟨rfl, rfl⟩
    go_wp2
    go_ret
    exact ⟨rfl, HSelf.out⟩
  have h2' : named n = true := by simpa using h2
  have HN16 := Lib.hid (named_len h2')
  rw [h2'] at HName ⊢
  simp only [Bool.not_true, Bool.false_eq_true, if_false]
  by_cases h3 : a < 0 ∨ 1048576 < a
  · rw [if_pos h3]
    clear h1 h1' c0 h2 h2'
    have hx : (decide (a < 0) = true) ∨ (decide (a < 0) = false ∧ decide (1048576 < a) = true) := by
      by_cases h : a < 0
      · exact .inl (by simpa using h)
      · exact .inr ⟨by simpa using h, by simp; omega⟩
    rcases hx with hx | ⟨hx, hy⟩
    · clear h3
      go_enter Try.func130, Try.ntmps130
      go_wp2_with fail
      refine HDown.out.mono ?_
      rintro e w' ⟨rfl, rfl⟩
      go_wp2_with fail
      refine HName.out.mono ?_
      rintro e w' ⟨rfl, rfl⟩
      go_wp2
      all_goals first | (exfalso; simp at hx; omega) | (go_ret; exact ⟨rfl, HSelf.out⟩)
    · clear h3
      go_enter Try.func130, Try.ntmps130
      go_wp2_with fail
      refine HDown.out.mono ?_
      rintro e w' ⟨rfl, rfl⟩
      go_wp2_with fail
      refine HName.out.mono ?_
      rintro e w' ⟨rfl, rfl⟩
      go_wp2
      all_goals first | (exfalso; simp at hx hy; omega) | (go_ret; exact ⟨rfl, HSelf.out⟩)
  rw [if_neg h3]
  obtain ⟨A, rfl⟩ : ∃ A : Nat, a = (A : Int) := ⟨a.toNat, by omega⟩
  simp only [Int.toNat_natCast]
  have hA : A ≤ 1048576 := by omega
  have i1 : decide ((A : Int) < 0) = false := by simp
  have i2 : decide (1048576 < (A : Int)) = false := by simp; omega
  have hfew : F1.length ≤ 2000 := by
    have e1 := HD.out.ok.fewN
    rw [← HD.out.p1, pr_length] at e1
    omega
  have c3 : ∀ N, (w.drewN N).cell? ⟨d, 3, none⟩ = some (.map (some m1)) := fun N => by show w.cell? _ = _; rw [HD.out.cells]; rfl
  have c4 : ∀ N, (w.drewN N).cell? ⟨d, 3 + 1, none⟩ = some (.int .i64 (tot (pr F1) : Int)) := fun N => by show w.cell? _ = _; rw [HD.out.p1, HD.out.cells]; rfl
  have HU : Hid (∀ N, Calls Try.prog 138 #[fp d 3, nm n, .int .i64 (A : Int), .int .i64 (lb : Int)] (w.drewN N) fun e w'' => e = .returned (.int .i64 (used s.now n A lb : Int)) ∧ ∃ m, w'' = w.drewN m) := fun N => by
    have h := usedWith_any (k := lb) (c3 N) (c4 N) ((sames_drewN w N).keep HD.out.k1) hn (by rw [HD.out.p1]; exact HD.out.ok.fitN) (by omega) hA hl
    rw [HD.out.p1] at h
    exact h.mono fun e w' h => ⟨h.1, N, h.2.symm⟩
  rw [HLb.out]
  obtain ⟨U, hU⟩ : ∃ U, U = used s.now n A lb := ⟨_, rfl⟩
  rw [← hU] at HU ⊢
  obtain ⟨R, hR⟩ : ∃ R, R = max s.room 0 := ⟨_, rfl⟩
  rw [← hR] at c0 ⊢
  clear hU hR c3 c4 h1 h1' h2 h2' h3
  by_cases h4 : R < (U : Int)
  · rw [if_pos h4]
    have i3 : decide (R < (U : Int)) = true := by simpa using h4
    go_enter Try.func130, Try.ntmps130
    go_wp2_with fail
    refine HDown.out.mono ?_
    rintro e w' ⟨rfl, rfl⟩
    go_wp2_with fail
    refine HName.out.mono ?_
    rintro e w' ⟨rfl, rfl⟩
    go_wp2
    go_quiet (first | with_reducible exact HU.out _)
    go_wp2
    go_ret
    exact ⟨rfl, ⟨(HSelf.out.disk).same (fun k _ => rfl) (Nat.le_refl _), (sames_drewN w nq).only T⟩⟩
  · rw [if_neg h4]
    have i3 : decide (R < (U : Int)) = false := by simpa using h4
    have HClone := Lib.hid (fun N => clone_any ab lb cb b (w.drewN N) (show Bys (w.drewN N) _ b from HBy.out) (by have := HLb.out; omega))
    obtain ⟨N, hN⟩ : ∃ N, nm n = .string N := ⟨_, rfl⟩
    have hfo : FitO ⟨0, n, [], A, b⟩ := ⟨Nat.zero_le _, HN16.out, Nat.zero_le _, (by show A ≤ 8388608; omega), fun _ => hA, (by show b.length ≤ 4194304; have := HLb.out; omega), fun h => absurd rfl h, fun h => absurd h (Nat.not_lt.2 (Nat.zero_le 1))⟩
    have HRun : Hid (∀ W v, Below w.heap.size w W → Row W w.heap.size v b → Calls Try.prog 136 #[dp d, .agg #[.int .i64 0, .string N, .string ⟨#[]⟩, .int .i64 (A : Int), v]] W fun e w' => e = .returned (.int .i64 (s.said : Int)) ∧ Next w T d (c + 1) (s.run ⟨0, n, [], A, b⟩) w') := fun W v hb hv => by
      have h := run_next (op := ⟨0, n, [], A, b⟩) (v := v) HD.out HT.out HLt.out hc hfo hb hv
      simp only [opC, hN] at h
      exact h
    rw [hN] at HName HU ⊢
    clear hfo hN
    go_enter Try.func130, Try.ntmps130
    go_wp2_with fail
    refine HDown.out.mono ?_
    rintro e w' ⟨rfl, rfl⟩
    go_wp2_with fail
    refine HName.out.mono ?_
    rintro e w' ⟨rfl, rfl⟩
    go_wp2
    go_quiet (first | with_reducible exact HU.out _)
    go_wp2_with fail
    refine (HClone.out _).mono ?_
    rintro e w1 ⟨v, rfl, hv, hb1⟩
    obtain ⟨va, vc, rfl⟩ := slice_of_row hv
    have HV := Lib.hid hv
    have HB1 := Lib.hid hb1
    clear hv hb1
    go_wp2_with fail
    refine (HRun.out w1 _ ⟨HB1.out.os, HB1.out.tape, HB1.out.output, HB1.out.size, HB1.out.block⟩ HV.out).mono ?_
    rintro e w2 ⟨rfl, hnx⟩
    have HNx := Lib.hid hnx
    clear hnx
    go_wp2
    go_ret
    exact ⟨rfl, HNx.out⟩
end Go.Proofs.Ytboongdoggggoaa
