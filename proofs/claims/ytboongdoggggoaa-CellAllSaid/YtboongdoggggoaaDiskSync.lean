/- Sync. -/
import Derived.Test.YtboongdoggggoaaDiskCalls2
namespace Go.Proofs.Ytboongdoggggoaa
set_option maxRecDepth 20000
open Go.RowKit Go.Maps DiskMath Reg

theorem burn_now (s : St) : s.burn.now = s.now := by
  unfold St.burn
  split
  · rfl
  · split <;> rfl

/-- What is left when all that waited was done to the files that were sure: nothing waits. -/
theorem sync_end {w w' : World} {d c : Nat} {s : St} {m1 m2 : Nat} {F1 F2 : Gf} {ws : Value} {G : Go8} (hd : Dk w d c s m1 m2 F1 F2 ws G) (hD : Done w d 5 m2 F2 (dC s m1 m2 ws) (doAllA s.ops s.sure) w') :
    ∃ F2', Dk (w'.setCell ⟨d, 7, none⟩ (.slice none 0 0)) d c { s with sure := s.now, ops := [] } m1 m2 F1 F2' (.slice none 0 0) [] ∧ (∀ k, foot F2' k → foot F2 k ∨ w.heap.size ≤ k) ∧ OnlyS (tk d m1 m2 F1 F2 ws G) w (w'.setCell ⟨d, 7, none⟩ (.slice none 0 0)) := by
  obtain ⟨F2', r1, r2, r3, r4, r5⟩ := hD
  have hnow : doAllA s.ops s.sure = s.now := hd.ok.now.symm
  rw [hnow] at r2 r3
  have hm1d : m1 ≠ d := hd.k1.ne_blk hd.blk
  have hk1 : Keep w' m1 F1 := by
    refine hd.k1.same (r4.block m1 hd.k1.lt ?_) fun k hf => r4.block k (hd.k1.foot_lt hf) ?_
    · rintro (h | h | ⟨p, hp, h⟩)
      · exact hm1d h
      · exact hd.ne h
      · exact hd.k1.ne (hd.k2.row p hp) h
    · rintro (h | h | h)
      · obtain ⟨p, hp, hf⟩ := hf
        exact row_ne_blk (hd.k1.row p hp) hd.blk (by decide) (by rw [hf, h])
      · obtain ⟨p, hp, hf⟩ := hf
        exact hd.k2.ne (hd.k1.row p hp) (by rw [hf, h])
      · exact hd.ap k hf h
  refine ⟨F2', {
    blk := by
      have h := Blk.set r3 7 (.slice none 0 0)
      exact h
    k1 := hk1.setBlk r3 (by decide) 7 _
    p1 := hd.p1
    k2 := r1.setBlk r3 (by decide) 7 _
    p2 := r2
    wops := ⟨World.ownsRow_nil _ _ _ _, fun p hp => by cases hp⟩
    pw := rfl
    ok := ⟨rfl, hd.ok.riseN, hd.ok.fitN, (fun o ho => by cases ho), hd.ok.fewN⟩
    small := hd.small
    ne := hd.ne
    ap := fun k h1 h2 => by
      rcases r5 k h2 with h | h
      · exact hd.ap k h1 h
      · have := hd.k1.foot_lt h1
        omega
    apo := fun p hp => by cases hp
    fuse := hd.fuse }, r5, (r4.mono fun k _ h => ?_).then (only_set w' d 7 _) fun k _ h => .inl h⟩
  rcases h with h | h | h
  · exact .inl h
  · exact .inr (.inr (.inl h))
  · exact .inr (.inr (.inr (.inr (.inl h))))

theorem tk_nil {d m1 m2 : Nat} {F1 F2 F2' : Gf} {ws : Value} {G : Go8} {N : Nat} (h : ∀ k, foot F2' k → foot F2 k ∨ N ≤ k) : ∀ k, tk d m1 m2 F1 F2' (.slice none 0 0) [] k → tk d m1 m2 F1 F2 ws G k ∨ N ≤ k := by
  intro k hk
  rcases hk with hk | hk | hk | hk | hk | hk | ⟨p, hp, _⟩
  · exact .inl (.inl hk)
  · exact .inl (.inr (.inl hk))
  · exact .inl (.inr (.inr (.inl hk)))
  · exact .inl (.inr (.inr (.inr (.inl hk))))
  · rcases h k hk with h | h
    · exact .inl (.inr (.inr (.inr (.inr (.inl h)))))
    · exact .inr h
  · simp [Value.ownBlock] at hk
  · cases hp

set_option maxHeartbeats 1000000 in
theorem sync_any {w : World} {T : Nat → Prop} {d c : Nat} {s : St} (h : IsDisk w T d c s) :
    Calls Try.prog 132 #[dp d] w fun e w' => e = .returned (.int .i64 ((s.sync).1 : Int)) ∧ Next w T d c (s.sync).2 w' := by
  have hself : Next w T d c s w := Next.refl h
  have hlt := h.lt
  obtain ⟨m1, m2, F1, F2, ws, G, hd, ht⟩ := h.ex
  have HDown := Lib.hid (down_any hd)
  have HBurn := Lib.hid (burn_any hd)
  have HSelf := Lib.hid hself
  have HT := Lib.hid ht
  have HLt := Lib.hid hlt
  have HSmall := Lib.hid hd.small
  have HLen : Hid (F2.length + G.length ≤ 2000) := by
    have e1 := hd.ok.few
    rw [← hd.p2, pr_length, ← hd.pw] at e1
    have e2 : (names8 G).length = G.length := by simp [names8]
    have := hd.small
    show F2.length + G.length ≤ 2000
    omega
  clear hself h hd ht hlt
  unfold St.sync
  by_cases h1 : s.off = true
  · rw [if_pos h1]
    rw [h1] at HDown
    clear h1 HBurn
    go_enter Try.func132, Try.ntmps132
    go_wp2_with fail
    refine HDown.out.mono ?_
    rintro e w' ⟨rfl, rfl⟩
    go_wp2
    go_ret
    exact ⟨rfl, HSelf.out⟩
  rw [if_neg h1]
  rw [show s.off = false by simpa using h1] at HDown
  clear h1
  by_cases h0 : s.fuse = 0
  · rw [if_pos h0]
    have hb : decide (s.fuse ≠ 0) = false := by simp [h0]
    rw [hb] at HBurn
    clear h0 hb
    go_enter Try.func132, Try.ntmps132
    go_wp2_with fail
    refine HDown.out.mono ?_
    rintro e w' ⟨rfl, rfl⟩
    go_wp2_with fail
    refine HBurn.out.mono ?_
    rintro e w2 ⟨rfl, hd2, ho2⟩
    have HN := Lib.hid (Next.of (T := T) HLt.out (ho2.mono fun k _ e => HT.out k (.inl e)) hd2 fun k hk => .inl (HT.out k hk))
    clear hd2 ho2
    go_wp2
    go_ret
    exact ⟨rfl, HN.out⟩
  · rw [if_neg h0]
    have hb : decide (s.fuse ≠ 0) = true := by simp [h0]
    rw [hb] at HBurn
    clear h0 hb
    go_enter Try.func132, Try.ntmps132
    go_wp2_with fail
    refine HDown.out.mono ?_
    rintro e w' ⟨rfl, rfl⟩
    go_wp2_with fail
    refine HBurn.out.mono ?_
    rintro e w2 ⟨rfl, hd2, ho2⟩
    have HD2 := Lib.hid hd2
    have HO2 := Lib.hid ho2
    clear hd2 ho2
    go_wp2
    refine region_tail 7 (by kernel_rfl) (by kernel_rfl) (Sames w2) (sames_drew w2) ?_
    intro W hW
    have hdW : Dk W d c s.burn m1 m2 F1 F2 ws G := HD2.out.same fun k _ => by rw [hW.heap]
    have c7 : W.cell? ⟨d, 7, none⟩ = some ws := by rw [hdW.cells]; rfl
    have HDo := Lib.hid (doAll_any (o := 5) hdW.blk rfl (by rw [hdW.p2]; rfl) hdW.k2 (by rw [hdW.p2]; exact hdW.ok.fit) (by have := HLen.out; omega) (fun p hp => hdW.ok.fitO p.1 (by rw [← hdW.pw]; exact List.mem_map_of_mem hp)) hdW.wops (fun p hp k hf e => (hdW.apo p hp k e).2 hf))
    rw [hdW.pw, hdW.p2] at HDo
    have HDW := Lib.hid hdW
    have HW := Lib.hid hW
    clear hW hdW
    simp only [List.take_succ_cons, List.take_zero, List.drop_succ_cons, List.drop_zero]
    repeat (first | go_big_quiet_skip | (go_big_quiet_want; go_big_quiet_op; go_big_quiet_on))
    refine wpQuiet_nil ?_
    go_wp2_with fail
    refine HDo.out.mono ?_
    rintro e w3 ⟨rfl, hDone⟩
    obtain ⟨F2', q1, q2, q3⟩ := sync_end HDW.out hDone
    have e3 : w3.cell? ⟨d, 7, none⟩ = some ws ∧ w3.frozen? ⟨d, 7, none⟩ = false := by
      obtain ⟨F2'', r1, r2, r3, r4, r5⟩ := hDone
      exact ⟨by rw [Blk.cell r3]; rfl, Blk.frozen r3 7⟩
    have HEnd : Hid (Next w T d c { s.burn with sure := s.now, ops := [] } (w3.setCell ⟨d, 7, none⟩ (.slice none 0 0))) := by
      have h1 : OnlyS T w W := (HO2.out.mono fun k _ e => HT.out k (.inl e)).then (HW.out.only (fun _ => False)) fun _ _ h => h.elim
      have e := congrArg (fun x => ({ s.burn with sure := x, ops := [] } : St)) (burn_now s)
      simp only at e
      rw [← e]
      refine Next.of HLt.out (h1.then q3 fun k _ h => HT.out k h) q1 fun k hk => ?_
      rcases tk_nil (ws := ws) (G := G) q2 k hk with h | h
      · exact .inl (HT.out k h)
      · exact .inr (Nat.le_trans h1.size h)
    obtain ⟨e4, f4⟩ := e3
    clear hDone q1 q2 q3 c7 HDo
    go_wp2
    go_ret
    exact ⟨rfl, HEnd.out⟩
end Go.Proofs.Ytboongdoggggoaa
