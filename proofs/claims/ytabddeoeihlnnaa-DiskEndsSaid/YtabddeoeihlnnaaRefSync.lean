/- The reference's Sync. -/
import Derived.Test.YtabddeoeihlnnaaRefCalls
namespace Go.Proofs.Ytabddeoeihlnnaa
open Go.RowKit Go.Maps DiskMath

theorem burn_keeps (s : St) : s.burn.now = s.now ∧ s.burn.sure = s.sure ∧ s.burn.ops = s.ops ∧ s.burn.room = s.room := by
  unfold St.burn
  split
  · exact ⟨rfl, rfl, rfl, rfl⟩
  · split <;> exact ⟨rfl, rfl, rfl, rfl⟩

/-- Files become sure; nothing waits. -/
theorem Rk.synced {w : World} {r c : Nat} {s : St} {fv sv ov : Value} {F1 F2 : Gf} {G : Go8} (h : Rk w r c s fv sv ov F1 F2 G) : Rk ((w.setCell ⟨r, 1, none⟩ fv).setCell ⟨r, 2, none⟩ (.slice none 0 0)) r c { s with sure := s.now, ops := [] } fv fv (.slice none 0 0) F1 F1 [] := by
  have hoth : ∀ k, k ≠ r → ((w.setCell ⟨r, 1, none⟩ fv).setCell ⟨r, 2, none⟩ (.slice none 0 0)).heap[k]? = w.heap[k]? := fun k hk => by
    rw [heap_setCell_other _ ⟨r, 2, none⟩ k _ hk, heap_setCell_other _ ⟨r, 1, none⟩ k _ hk]
  have hf := h.f1.same fun k hk => hoth k (h.ne (.inl hk))
  exact {
    blk := Blk.set (Blk.set h.blk 1 fv) 2 (.slice none 0 0)
    f1 := hf
    p1 := h.p1
    f2 := hf
    p2 := h.p1
    ops := World.ownsRow_nil _ _ _ _
    text := fun p hp => by cases hp
    pw := rfl
    ok := ⟨rfl, h.ok.riseN, h.ok.fitN, (fun o ho => by cases ho), h.ok.fewN⟩
    small := h.small
    fuse := h.fuse }

set_option maxHeartbeats 1000000 in
theorem syncr_any {w : World} {S : Nat → Prop} {r c : Nat} {s : St} (h0 : IsRef w S r c s) : Calls Try.prog 34 #[dp r] w fun e w' => e = .returned (.int .i64 ((s.sync).1 : Int)) ∧ NextR w S r c (s.sync).2 w' := by
  obtain ⟨fv, sv, ov, F1, F2, G, h, ht⟩ := h0.ex
  have c5 : w.cell? ⟨r, 5, none⟩ = some (.bool s.off) := by rw [Blk.cell h.blk]; rfl
  have HBurn := Lib.hid (burnr_any h)
  have hr := ht r (.inl rfl)
  by_cases h1 : s.off = true
  · have ey : s.sync = (6, s) := by unfold St.sync; rw [if_pos h1]
    have HN := Lib.hid (NextR.refl h0)
    rw [ey]
    rw [h1] at c5
    clear h h0 ht HBurn ey h1 hr
    go_enter Try.func34, Try.ntmps34
    go_wp2
    go_ret
    exact ⟨rfl, HN.out⟩
  · rw [show s.off = false by simpa using h1] at c5
    have HLt := Lib.hid h0.lt
    have HT := Lib.hid ht
    have HR := Lib.hid hr
    obtain ⟨va, vc, hv⟩ := h.f1.slice
    by_cases hz : s.fuse = 0
    · have ey : s.sync = (6, s.burn) := by unfold St.sync; rw [if_neg h1, if_pos hz]
      have es : s.said = 6 := by unfold St.said; rw [if_pos hz]
      rw [es] at HBurn
      rw [ey]
      clear h h0 ht ey h1 hr es hz hv
      go_enter Try.func34, Try.ntmps34
      go_wp2_with fail
      refine HBurn.out.mono ?_
      rintro e w2 ⟨rfl, q1, q2⟩
      have HE := Lib.hid (NextR.of HLt.out (q2.mono fun k _ e => e ▸ HR.out) q1 fun k hk => .inl (HT.out k hk))
      clear q1 q2
      go_wp2
      go_ret
      exact ⟨rfl, HE.out⟩
    · have ey : s.sync = (0, { s.burn with sure := s.now, ops := [] }) := by unfold St.sync; rw [if_neg h1, if_neg hz]
      have es : s.said = 0 := by unfold St.said; rw [if_neg hz]
      rw [es] at HBurn
      rw [ey]
      have HK := Lib.hid (burn_keeps s)
      subst hv
      obtain ⟨L, hL⟩ : ∃ L, L = F1.length := ⟨_, rfl⟩
      rw [← hL] at HBurn HT
      clear h h0 ht ey h1 hr es hz hL
      go_enter Try.func34, Try.ntmps34
      go_wp2_with fail
      refine HBurn.out.mono ?_
      rintro e w2 ⟨rfl, q1, q2⟩
      have p0 : w2.cell? ⟨r, 0, none⟩ = some (.slice va L vc) := by rw [Blk.cell q1.blk]; rfl
      have p1 : w2.cell? ⟨r, 1, none⟩ = some sv := by rw [Blk.cell q1.blk]; rfl
      have p2 : w2.cell? ⟨r, 2, none⟩ = some ov := by rw [Blk.cell q1.blk]; rfl
      have f1 : w2.frozen? ⟨r, 1, none⟩ = false := Blk.frozen q1.blk 1
      have f2 : w2.frozen? ⟨r, 2, none⟩ = false := Blk.frozen q1.blk 2
      have hs := q1.synced
      rw [HK.out.1] at hs
      have hof : OnlyS S w ((w2.setCell ⟨r, 1, none⟩ (.slice va L vc)).setCell ⟨r, 2, none⟩ (.slice none 0 0)) :=
        ((q2.mono fun k _ e => e ▸ HR.out).then (only_set w2 r 1 _) fun k _ e => e ▸ HR.out).then (only_set _ r 2 _) fun k _ e => e ▸ HR.out
      have HE := Lib.hid (NextR.of HLt.out hof hs fun k hk => by
        rcases hk with rfl | hk | hk | hk | ⟨p, hp, _⟩
        · exact .inl HR.out
        · exact .inl (HT.out k (.inr (.inl hk)))
        · exact .inl (HT.out k (.inr (.inl hk)))
        · simp [Value.ownBlock] at hk
        · cases hp)
      clear q1 q2 hs hof
      go_wp2
      go_ret
      refine ⟨rfl, ?_⟩
      rw [HK.out.1]
      exact HE.out
end Go.Proofs.Ytabddeoeihlnnaa
