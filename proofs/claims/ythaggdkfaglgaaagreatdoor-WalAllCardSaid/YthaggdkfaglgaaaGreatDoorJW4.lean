/- Joined: WalCalls, WalCalls2, WalLoad, WalOpen, WalGet, WalRef. -/
import Derived.Test.YthaggdkfaglgaaaGreatDoorJW3
import Derived.Test.YthaggdkfaglgaaaGreatDoorJW2
/- Append, Sync, Cut, Trim. -/
namespace Go.Proofs.YthaggdkfaglgaaaGreatDoor
set_option maxRecDepth 20000
open Go.RowKit Go.Maps DiskMath WalMath FrameMath Reg

theorem works_of {w w1 w2 : World} {S : Nat → Prop} {d l c code : Nat} {q : Nm} {s : St} {f : Nat} {R : List (List UInt8)} {e : Ending} (hS : ∀ k, S k → k < w.heap.size) (hb : Below w.heap.size w w1) (hs : w1.heap.size = w.heap.size + 1) (hm : Must code e) (hp : PNx w1 S d l c q s f R false w2) :
    Works w l (fun c0 w2 => c0 = code ∧ ∃ w1, Below w.heap.size w w1 ∧ w1.heap.size = w.heap.size + 1 ∧ PNx w1 S d l c q s f R false w2) w1 e w2 := by
  obtain ⟨T, U, hd, hl, hT, hU, hTU⟩ := hp.pr.ex
  obtain ⟨v, us, l1, _⟩ := hl.ex
  exact ⟨code, hm, ⟨rfl, w1, hb, hs, hp⟩, hp.only.size, hp.only.block _ (by omega) fun h => by have := hS _ h; omega, _, l1, rfl⟩

theorem Pr.log {w : World} {S : Nat → Prop} {d l c : Nat} {q : Nm} {s : St} {f : Nat} {R : List (List UInt8)} {over : Bool} (h : Pr w S d l c q s f R over) : ∃ a c, Blk w l 108 (logC d q f (.slice a R.length c) over) ∧ S l ∧ f + R.length ≤ 99 := by
  obtain ⟨T, U, hd, hl, hT, hU, hTU⟩ := h.ex
  obtain ⟨v, us, l1, l2, l3, _, l5, _⟩ := hl.ex
  obtain ⟨a, c, rfl, _⟩ := l2.form
  rw [l3] at l1
  exact ⟨a, c, l1, hU l l5, hl.lim⟩

set_option maxHeartbeats 1000000 in
theorem wAppend_over {w : World} {S : Nat → Prop} {d l c : Nat} {q : Nm} {s : St} {f : Nat} {R : List (List UInt8)} (h : Pr w S d l c q s f R true) (ra : Option Addr) (rl rc : Nat) :
    Calls Tryz.prog 31 #[.pointer (some ⟨l, 0, none⟩), .slice ra rl rc] w fun e w' => e = .returned (.int .i64 6) ∧ Below w.heap.size w w' := by
  obtain ⟨a, c', hb, -⟩ := h.log
  have HB := Lib.hid hb
  clear h hb
  go_enter Tryz.func31, Tryz.ntmps31
  go_wp2_with fail
  have hb0 : Below w.heap.size w ((w.alloc (.cells #[.pointer (some ⟨l, 0, none⟩)] 37)).alloc (.cells #[.slice ra rl rc] 27)) := ((Below.refl _ w).alloc (Nat.le_refl _) _).alloc (by simp) _
  have HB0 := Lib.hid hb0
  refine (wover_any (HB.out.keep hb0)).mono ?_
  rintro e w' ⟨rfl, rfl⟩
  clear hb0
  go_wp2
  go_ret
  exact ⟨rfl, HB0.out⟩

set_option maxHeartbeats 1000000 in
theorem wAppend_long {w : World} {S : Nat → Prop} {d l c : Nat} {q : Nm} {s : St} {f : Nat} {R : List (List UInt8)} (h : Pr w S d l c q s f R false) (ra : Option Addr) (rl rc : Nat) (hl : 16384 < rl) :
    Calls Tryz.prog 31 #[.pointer (some ⟨l, 0, none⟩), .slice ra rl rc] w fun e w' => e = .returned (.int .i64 4) ∧ Below w.heap.size w w' := by
  obtain ⟨a, c', hb, -⟩ := h.log
  have HB := Lib.hid hb
  have i1 : (rl : Int) > 16384 := by omega
  clear h hb
  go_enter Tryz.func31, Tryz.ntmps31
  go_wp2_with fail
  have hb0 : Below w.heap.size w ((w.alloc (.cells #[.pointer (some ⟨l, 0, none⟩)] 37)).alloc (.cells #[.slice ra rl rc] 27)) := ((Below.refl _ w).alloc (Nat.le_refl _) _).alloc (by simp) _
  have HB0 := Lib.hid hb0
  refine (wover_any (HB.out.keep hb0)).mono ?_
  rintro e w' ⟨rfl, rfl⟩
  clear hb0
  go_wp2
  go_ret
  exact ⟨rfl, HB0.out⟩

/-- What attempt answers, and leaves. -/
def Tells (w : World) (S : Nat → Prop) (d l c code : Nat) (q : Nm) (s : St) (f : Nat) (R : List (List UInt8)) (e : Ending) (w' : World) : Prop :=
  e = .returned (.int .i64 (said code : Int)) ∧ ∃ c', c' ≤ c ∧ PNx w S d l c' q s f R (decide (code ≠ 0) && decide (code ≠ 7)) w'

set_option maxHeartbeats 1000000 in
theorem wAppend_any {w : World} {S : Nat → Prop} {d l c : Nat} {q : Nm} {s : St} {f : Nat} {R : List (List UInt8)} (hq : q.length ≤ 4) (h : Pr w S d l c q s f R false) (hc : c + 1 ≤ 2000) (hlim : f + R.length ≤ 98)
    {ra : Option Addr} {rl rc : Nat} {r : List UInt8} (hr : Bys w (.slice ra rl rc) r) (hrl : r.length = rl) (hr2 : rl ≤ 16384) (hra : ∀ k, (Value.slice ra rl rc).ownBlock = some k → ¬ S k) (ht : Tab w) (hS0 : ¬ S 0) :
    Calls Tryz.prog 31 #[.pointer (some ⟨l, 0, none⟩), .slice ra rl rc] w (Tells w S d l (c + 1) (layA q s (f + R.length) r).1 q (layA q s (f + R.length) r).2 f (if (layA q s (f + R.length) r).1 = 0 then R ++ [r] else R)) := by
  obtain ⟨a, c', hb, hSl, -⟩ := h.log
  have HB := Lib.hid hb
  have HP := Lib.hid h
  have HBy := Lib.hid hr
  have HTab := Lib.hid ht
  have HSl := Lib.hid hSl
  have i1 : ¬ ((rl : Int) > 16384) := by omega
  have hmf : ∀ (fn : Fn) (first cap : Array Value) (w : World), (Instr.makeFunc fn first cap).run Tryz.prog w = .ok (.func fn first cap) w := fun _ _ _ _ => rfl
  obtain ⟨R', hR'⟩ : ∃ R', R' = (if (layA q s (f + R.length) r).1 = 0 then R ++ [r] else R) := ⟨_, rfl⟩
  obtain ⟨s', hs'⟩ : ∃ s', s' = (layA q s (f + R.length) r).2 := ⟨_, rfl⟩
  obtain ⟨x, hx⟩ : ∃ x, x = (layA q s (f + R.length) r).1 := ⟨_, rfl⟩
  rw [← hR', ← hs', ← hx]
  have hwork : ∀ w1, Pr w1 S d l c q s f R false → ∀ {Lb Rb : Nat}, Blk w1 Lb 37 #[.pointer (some ⟨l, 0, none⟩)] → ¬ S Lb → Blk w1 Rb 27 #[.slice ra rl rc] → ¬ S Rb → Bys w1 (.slice ra rl rc) r → Tab w1 →
      Calls Tryz.prog 59 #[.pointer (some ⟨Lb, 0, none⟩), .pointer (some ⟨Rb, 0, none⟩)] w1 fun e w' => Must x e ∧ PNx w1 S d l (c + 1) q s' f R' false w' := fun w1 h1 Lb Rb h2 h3 h4 h5 h6 h7 => by
    refine (append_work hq h1 hc hlim h2 h3 h4 h5 h6 hrl hr2 hra h7 hS0).mono ?_
    rintro e w2 ⟨hm, hp⟩
    rw [← hx] at hm
    rw [← hR', ← hs'] at hp
    exact ⟨hm, hp⟩
  have HWork := Lib.hid @hwork
  clear h hr hrl hra ht hS0 hlim hb hc hSl hR' hs' hx hwork
  go_enter Tryz.func31, Tryz.ntmps31
  go_wp2_with fail
  have hb0 : Below w.heap.size w ((w.alloc (.cells #[.pointer (some ⟨l, 0, none⟩)] 37)).alloc (.cells #[.slice ra rl rc] 27)) := ((Below.refl _ w).alloc (Nat.le_refl _) _).alloc (by simp) _
  have hk0 : Blk ((w.alloc (.cells #[.pointer (some ⟨l, 0, none⟩)] 37)).alloc (.cells #[.slice ra rl rc] 27)) w.heap.size 37 #[.pointer (some ⟨l, 0, none⟩)] := (Blk.new w _ _).alloc _
  have hk1 := Blk.newAt (w.alloc (.cells #[.pointer (some ⟨l, 0, none⟩)] 37)) 27 #[.slice ra rl rc] _ (w.heap.size + 1) (by simp) rfl
  obtain ⟨w0, hw0⟩ : ∃ w0, w0 = (w.alloc (.cells #[.pointer (some ⟨l, 0, none⟩)] 37)).alloc (.cells #[.slice ra rl rc] 27) := ⟨_, rfl⟩
  rw [← hw0] at hb0 hk0 hk1 ⊢
  obtain ⟨N, hN⟩ : ∃ N, N = w.heap.size := ⟨_, rfl⟩
  rw [← hN] at hk0 hk1 ⊢
  have HN := Lib.hid hN
  have HB0 := Lib.hid hb0
  have HK0 := Lib.hid hk0
  have HK1 := Lib.hid hk1
  refine (wover_any (HB.out.keep hb0)).mono ?_
  rintro e w' ⟨rfl, rfl⟩
  clear hb0 hw0 hN hk0 hk1
  have cb : w'.cell? ⟨N, 0, none⟩ = some (.pointer (some ⟨l, 0, none⟩)) := by rw [HK0.out.cell]; rfl
  have cr : w'.cell? ⟨N + 1, 0, none⟩ = some (.slice ra rl rc) := by rw [HK1.out.cell]; rfl
  go_wp2_with fail
  have hS : ∀ k, S k → k < w'.heap.size := fun k hk => Nat.lt_of_lt_of_le (HP.out.lt k hk) HB0.out.size
  have hNS : ¬ S N := fun h => by have := HP.out.lt N h; have := HN.out; omega
  have hNS1 : ¬ S (N + 1) := fun h => by have := HP.out.lt _ h; have := HN.out; omega
  refine (wattempt_any 59 #[] #[.pointer (some ⟨N, 0, none⟩), .pointer (some ⟨N + 1, 0, none⟩)] (fun args w => by kernel_rfl) l w' (hS l HSl.out)
    (fun c0 w2 => c0 = x ∧ ∃ w1, Below w'.heap.size w' w1 ∧ w1.heap.size = w'.heap.size + 1 ∧ PNx w1 S d l (c + 1) q s' f R' false w2) (fun w1 hb1 hs1 => ?_)).mono ?_
  · refine (HWork.out w1 ((HP.out.below HB0.out).below hb1) (HK0.out.keep hb1) hNS (HK1.out.keep hb1) hNS1 ((HBy.out.below (Nat.le_refl _) HB0.out).below (Nat.le_refl _) hb1) ((HTab.out.below (Nat.le_refl _) HB0.out).below (Nat.le_refl _) hb1)).mono ?_
    rintro e w2 ⟨hm, hp⟩
    exact works_of hS hb1 hs1 hm hp
  · rintro e w2 hw
    obtain ⟨rfl, hp⟩ := tried_next hS hw
    have HPn := Lib.hid (PNx.pre HB0.out HP.out.lt hp)
    clear hw hp cb cr
    go_wp2
    go_ret
    exact ⟨rfl, c + 1, Nat.le_refl _, HPn.out⟩
end Go.Proofs.YthaggdkfaglgaaaGreatDoor

/- Sync, Cut, Trim. -/
namespace Go.Proofs.YthaggdkfaglgaaaGreatDoor
set_option maxRecDepth 20000
open Go.RowKit Go.Maps DiskMath WalMath FrameMath Reg

theorem wSync_over {w : World} {S : Nat → Prop} {d l c : Nat} {q : Nm} {s : St} {f : Nat} {R : List (List UInt8)} (h : Pr w S d l c q s f R true) :
    Calls Tryz.prog 19 #[.pointer (some ⟨l, 0, none⟩)] w fun e w' => e = .returned (.int .i64 6) ∧ Below w.heap.size w w' := by
  obtain ⟨a, c', hb, -⟩ := h.log
  have HB := Lib.hid hb
  clear h hb
  go_enter Tryz.func19, Tryz.ntmps19
  go_wp2_with fail
  refine (wover_any HB.out).mono ?_
  rintro e w' ⟨rfl, rfl⟩
  go_wp2
  go_ret
  exact ⟨rfl, Below.refl _ _⟩

set_option maxHeartbeats 1000000 in
theorem wSync_any {w : World} {S : Nat → Prop} {d l c : Nat} {q : Nm} {s : St} {f : Nat} {R : List (List UInt8)} (h : Pr w S d l c q s f R false) :
    Calls Tryz.prog 19 #[.pointer (some ⟨l, 0, none⟩)] w (Tells w S d l c s.sync.1 q s.sync.2 f R) := by
  have hS := h.lt
  obtain ⟨T, U, hd, hl, hT, hU, hTU⟩ := h.ex
  obtain ⟨a, c', hb, hSl, -⟩ := h.log
  have HB := Lib.hid hb
  have HS := Lib.hid hS
  have HD := Lib.hid hd
  have HL := Lib.hid hl
  have HT := Lib.hid hT
  have HU := Lib.hid hU
  have HTU := Lib.hid hTU
  have HSl := Lib.hid hSl
  have cl0 : w.cell? ⟨l, 0, none⟩ = some (dp d) := by rw [hb.cell]; rfl
  have cl1 : w.cell? ⟨l, 1, none⟩ = some (nm q) := by rw [hb.cell]; rfl
  have hmf : ∀ (fn : Fn) (first cap : Array Value) (w : World), (Instr.makeFunc fn first cap).run Tryz.prog w = .ok (.func fn first cap) w := fun _ _ _ _ => rfl
  obtain ⟨s', hs'⟩ : ∃ s', s' = s.sync.2 := ⟨_, rfl⟩
  obtain ⟨x, hx⟩ : ∃ x, x = s.sync.1 := ⟨_, rfl⟩
  have hwork : ∀ w1, Below w.heap.size w w1 → Calls Tryz.prog 54 #[fv (some ⟨d, 0, none⟩) q] w1 fun e w' => Must x e ∧ PNx w1 S d l c q s' f R false w' := fun w1 hb1 => by
    refine (wsync_any q (hd.below hb1)).mono ?_
    rintro e w2 ⟨hm, hn⟩
    rw [← hx] at hm
    rw [← hs'] at hn
    exact ⟨hm, PNx.ofNext (fun k hk => Nat.lt_of_lt_of_le (hS k hk) hb1.size) hT hU hTU (hl.below hb1) hn⟩
  have HWork := Lib.hid hwork
  rw [← hs', ← hx]
  clear hwork hS hd hl hT hU hTU hb hSl h hs' hx
  go_enter Tryz.func19, Tryz.ntmps19
  go_wp2_with fail
  refine (wover_any HB.out).mono ?_
  rintro e w' ⟨rfl, rfl⟩
  go_wp2_with fail
  refine (wattempt_any 54 #[fv (some ⟨d, 0, none⟩) q] #[] (fun args w => by kernel_rfl) l w' (HS.out l HSl.out)
    (fun c0 w2 => c0 = x ∧ ∃ w1, Below w'.heap.size w' w1 ∧ w1.heap.size = w'.heap.size + 1 ∧ PNx w1 S d l c q s' f R false w2) (fun w1 hb1 hs1 => ?_)).mono ?_
  · refine (HWork.out w1 hb1).mono ?_
    rintro e w2 ⟨hm, hp⟩
    exact works_of HS.out hb1 hs1 hm hp
  · rintro e w2 hw
    obtain ⟨rfl, hp⟩ := tried_next HS.out hw
    have HPn := Lib.hid hp
    clear hw hp cl0 cl1
    go_wp2
    go_ret
    exact ⟨rfl, c, Nat.le_refl _, HPn.out⟩

set_option maxHeartbeats 1000000 in
theorem wCut_over {w : World} {S : Nat → Prop} {d l c : Nat} {q : Nm} {s : St} {f : Nat} {R : List (List UInt8)} (h : Pr w S d l c q s f R true) (m : Int) :
    Calls Tryz.prog 32 #[.pointer (some ⟨l, 0, none⟩), .int .u64 m] w fun e w' => e = .returned (.int .i64 6) ∧ Below w.heap.size w w' := by
  obtain ⟨a, c', hb, -⟩ := h.log
  have HB := Lib.hid hb
  clear h hb
  go_enter Tryz.func32, Tryz.ntmps32
  go_wp2_with fail
  have hb0 : Below w.heap.size w ((w.alloc (.cells #[.pointer (some ⟨l, 0, none⟩)] 37)).alloc (.cells #[.int .u64 m] 32)) := ((Below.refl _ w).alloc (Nat.le_refl _) _).alloc (by simp) _
  have HB0 := Lib.hid hb0
  refine (wover_any (HB.out.keep hb0)).mono ?_
  rintro e w' ⟨rfl, rfl⟩
  clear hb0
  go_wp2
  go_ret
  exact ⟨rfl, HB0.out⟩

set_option maxHeartbeats 1000000 in
theorem wCut_range {w : World} {S : Nat → Prop} {d l c : Nat} {q : Nm} {s : St} {f : Nat} {R : List (List UInt8)} (h : Pr w S d l c q s f R false) (m : Nat) (hm : m < f ∨ f + R.length < m) :
    Calls Tryz.prog 32 #[.pointer (some ⟨l, 0, none⟩), .int .u64 m] w fun e w' => e = .returned (.int .i64 9) ∧ Below w.heap.size w w' := by
  obtain ⟨a, c', hb, -, hlim⟩ := h.log
  have HB := Lib.hid hb
  have HM := Lib.hid hm
  have HLim := Lib.hid hlim
  clear h hb hm hlim
  obtain ⟨n, hn⟩ : ∃ n, n = f + R.length := ⟨_, rfl⟩
  have HN := Lib.hid hn
  clear hn
  go_enter Tryz.func32, Tryz.ntmps32
  go_wp2_with fail
  have hb0 : Below w.heap.size w ((w.alloc (.cells #[.pointer (some ⟨l, 0, none⟩)] 37)).alloc (.cells #[.int .u64 m] 32)) := ((Below.refl _ w).alloc (Nat.le_refl _) _).alloc (by simp) _
  have hk0 : Blk ((w.alloc (.cells #[.pointer (some ⟨l, 0, none⟩)] 37)).alloc (.cells #[.int .u64 m] 32)) w.heap.size 37 #[.pointer (some ⟨l, 0, none⟩)] := (Blk.new w _ _).alloc _
  have hk1 := Blk.newAt (w.alloc (.cells #[.pointer (some ⟨l, 0, none⟩)] 37)) 32 #[.int .u64 m] _ (w.heap.size + 1) (by simp) rfl
  obtain ⟨w0, hw0⟩ : ∃ w0, w0 = (w.alloc (.cells #[.pointer (some ⟨l, 0, none⟩)] 37)).alloc (.cells #[.int .u64 m] 32) := ⟨_, rfl⟩
  rw [← hw0] at hb0 hk0 hk1 ⊢
  obtain ⟨N, hN⟩ : ∃ N, N = w.heap.size := ⟨_, rfl⟩
  rw [← hN] at hk0 hk1 ⊢
  have HB0 := Lib.hid hb0
  have HK0 := Lib.hid hk0
  have HK1 := Lib.hid hk1
  refine (wover_any (HB.out.keep hb0)).mono ?_
  rintro e w' ⟨rfl, rfl⟩
  clear hb0 hw0 hN hk0 hk1
  have cb : w'.cell? ⟨N, 0, none⟩ = some (.pointer (some ⟨l, 0, none⟩)) := by rw [HK0.out.cell]; rfl
  have cr : w'.cell? ⟨N + 1, 0, none⟩ = some (.int .u64 (m : Int)) := by rw [HK1.out.cell]; rfl
  have HFi : Hid (∀ K, Calls Tryz.prog 29 #[.pointer (some ⟨l, 0, none⟩)] (w'.drewN K) fun e w2 => e = .returned (.int .u64 (f : Int)) ∧ ∃ m, w2 = w'.drewN m) := fun K => (wfirst_any (w := w'.drewN K) (HB.out.keep (below_dn HB0.out K))).mono fun e w2 h => ⟨h.1, K, h.2⟩
  have HNe : Hid (∀ K, Calls Tryz.prog 30 #[.pointer (some ⟨l, 0, none⟩)] (w'.drewN K) fun e w2 => e = .returned (.int .u64 (n : Int)) ∧ ∃ m, w2 = w'.drewN m) := fun K => (wnext_any (w := w'.drewN K) (HB.out.keep (below_dn HB0.out K)) (by have := HLim.out; omega)).mono fun e w2 h => by
    obtain ⟨h1, k, h2⟩ := h
    exact ⟨by rw [h1, HN.out], K + k, by rw [h2]; exact World.drewN_drewN _ _ _⟩
  by_cases h1 : m < f
  · have i1 : decide ((m : Int) < (f : Int)) = true := by simpa using h1
    have i2 : decide (m < f) = true := by simpa using h1
    go_wp2
    go_quiet (first | with_reducible exact HFi.out _ | with_reducible exact HNe.out _)
    clear cb cr
    go_wp2
    go_ret
    exact ⟨rfl, below_dn HB0.out _⟩
  · have h2 : n < m := by have := HM.out; have := HN.out; omega
    have i1 : decide ((m : Int) < (f : Int)) = false := by simpa using h1
    have i2 : decide (m < f) = false := by simpa using h1
    have i3 : decide ((n : Int) < (m : Int)) = true := by simpa using h2
    have i4 : decide (n < m) = true := by simpa using h2
    go_wp2
    go_quiet (first | with_reducible exact HFi.out _ | with_reducible exact HNe.out _)
    clear cb cr
    go_wp2
    go_ret
    exact ⟨rfl, below_dn HB0.out _⟩

set_option maxHeartbeats 1000000 in
theorem wCut_any {w : World} {S : Nat → Prop} {d l c : Nat} {q : Nm} {s : St} {f k : Nat} {R : List (List UInt8)} (hq : q.length ≤ 4) (h : Pr w S d l c q s f R false) (hc : c + 100 ≤ 2000) (hk : k ≤ R.length) :
    Calls Tryz.prog 32 #[.pointer (some ⟨l, 0, none⟩), .int .u64 ((f + k : Nat) : Int)] w (Tells w S d l (c + 100) (cutA q s f k R.length).1 q (cutA q s f k R.length).2 f (if (cutA q s f k R.length).1 = 0 then R.take k else R)) := by
  obtain ⟨a, c', hb, hSl, hlim⟩ := h.log
  have HB := Lib.hid hb
  have HP := Lib.hid h
  have HSl := Lib.hid hSl
  have HLim := Lib.hid hlim
  have hmf : ∀ (fn : Fn) (first cap : Array Value) (w : World), (Instr.makeFunc fn first cap).run Tryz.prog w = .ok (.func fn first cap) w := fun _ _ _ _ => rfl
  obtain ⟨R', hR'⟩ : ∃ R', R' = (if (cutA q s f k R.length).1 = 0 then R.take k else R) := ⟨_, rfl⟩
  obtain ⟨f', hf'⟩ : ∃ f', f' = f := ⟨_, rfl⟩
  obtain ⟨s', hs'⟩ : ∃ s', s' = (cutA q s f k R.length).2 := ⟨_, rfl⟩
  obtain ⟨x, hx⟩ : ∃ x, x = (cutA q s f k R.length).1 := ⟨_, rfl⟩
  have hwork : ∀ w1, Pr w1 S d l c q s f R false → ∀ {Lb Nb : Nat}, Blk w1 Lb 37 #[.pointer (some ⟨l, 0, none⟩)] → ¬ S Lb → Blk w1 Nb 32 #[.int .u64 ((f + k : Nat) : Int)] → ¬ S Nb →
      Calls Tryz.prog 61 #[.pointer (some ⟨Lb, 0, none⟩), .pointer (some ⟨Nb, 0, none⟩)] w1 fun e w' => Must x e ∧ ∃ c', c' ≤ c + 100 ∧ PNx w1 S d l c' q s' f' R' false w' := fun w1 h1 Lb Nb h2 h3 h4 h5 => by
    refine (cut_work hq h1 hc hk h2 h3 h4 h5).mono ?_
    rintro e w2 ⟨hm, c', hc', hp⟩
    rw [← hx] at hm
    rw [hR', hf', hs']
    exact ⟨hm, c', hc', hp⟩
  have HWork := Lib.hid @hwork
  rw [← hR', ← hs', ← hx]
  obtain ⟨m, hm⟩ : ∃ m, m = f + k := ⟨_, rfl⟩
  obtain ⟨n, hn⟩ : ∃ n, n = f + R.length := ⟨_, rfl⟩
  rw [← hm] at HWork ⊢
  have h1 : ¬ m < f := by omega
  have h2 : ¬ n < m := by omega
  have HN := Lib.hid hn
  have HF' := Lib.hid hf'
  clear h hb hc hSl hR' hs' hx hwork hk hlim hm hn hf'
  go_enter Tryz.func32, Tryz.ntmps32
  go_wp2_with fail
  have hb0 : Below w.heap.size w ((w.alloc (.cells #[.pointer (some ⟨l, 0, none⟩)] 37)).alloc (.cells #[.int .u64 m] 32)) := ((Below.refl _ w).alloc (Nat.le_refl _) _).alloc (by simp) _
  have hk0 : Blk ((w.alloc (.cells #[.pointer (some ⟨l, 0, none⟩)] 37)).alloc (.cells #[.int .u64 m] 32)) w.heap.size 37 #[.pointer (some ⟨l, 0, none⟩)] := (Blk.new w _ _).alloc _
  have hk1 := Blk.newAt (w.alloc (.cells #[.pointer (some ⟨l, 0, none⟩)] 37)) 32 #[.int .u64 m] _ (w.heap.size + 1) (by simp) rfl
  obtain ⟨w0, hw0⟩ : ∃ w0, w0 = (w.alloc (.cells #[.pointer (some ⟨l, 0, none⟩)] 37)).alloc (.cells #[.int .u64 m] 32) := ⟨_, rfl⟩
  rw [← hw0] at hb0 hk0 hk1 ⊢
  obtain ⟨N, hN⟩ : ∃ N, N = w.heap.size := ⟨_, rfl⟩
  rw [← hN] at hk0 hk1 ⊢
  have HNn := Lib.hid hN
  have HB0 := Lib.hid hb0
  have HK0 := Lib.hid hk0
  have HK1 := Lib.hid hk1
  refine (wover_any (HB.out.keep hb0)).mono ?_
  rintro e w' ⟨rfl, rfl⟩
  clear hb0 hw0 hN hk0 hk1
  have cb : w'.cell? ⟨N, 0, none⟩ = some (.pointer (some ⟨l, 0, none⟩)) := by rw [HK0.out.cell]; rfl
  have cr : w'.cell? ⟨N + 1, 0, none⟩ = some (.int .u64 (m : Int)) := by rw [HK1.out.cell]; rfl
  have HFi : Hid (∀ K, Calls Tryz.prog 29 #[.pointer (some ⟨l, 0, none⟩)] (w'.drewN K) fun e w2 => e = .returned (.int .u64 (f : Int)) ∧ ∃ m, w2 = w'.drewN m) := fun K => (wfirst_any (w := w'.drewN K) (HB.out.keep (below_dn HB0.out K))).mono fun e w2 h => ⟨h.1, K, h.2⟩
  have HNe : Hid (∀ K, Calls Tryz.prog 30 #[.pointer (some ⟨l, 0, none⟩)] (w'.drewN K) fun e w2 => e = .returned (.int .u64 (n : Int)) ∧ ∃ m, w2 = w'.drewN m) := fun K => (wnext_any (w := w'.drewN K) (HB.out.keep (below_dn HB0.out K)) (by have := HLim.out; omega)).mono fun e w2 h => by
    obtain ⟨h1, k, h2⟩ := h
    exact ⟨by rw [h1, HN.out], K + k, by rw [h2]; exact World.drewN_drewN _ _ _⟩
  have i1 : decide ((m : Int) < (f : Int)) = false := by simpa using h1
  have i2 : decide (m < f) = false := by simpa using h1
  have i3 : decide ((n : Int) < (m : Int)) = false := by simpa using h2
  have i4 : decide (n < m) = false := by simpa using h2
  go_wp2
  go_quiet (first | with_reducible exact HFi.out _ | with_reducible exact HNe.out _)
  have HBq := Lib.hid (below_dn HB0.out nq)
  obtain ⟨wq, hwq⟩ : ∃ wq, wq = w'.drewN nq := ⟨_, rfl⟩
  have HKq0 : Hid (Blk wq N 37 #[.pointer (some ⟨l, 0, none⟩)]) := by rw [hwq]; exact HK0.out
  have HKq1 : Hid (Blk wq (N + 1) 32 #[.int .u64 (m : Int)]) := by rw [hwq]; exact HK1.out
  rw [← hwq] at HBq ⊢
  have cbq : wq.cell? ⟨N, 0, none⟩ = some (.pointer (some ⟨l, 0, none⟩)) := by rw [HKq0.out.cell]; rfl
  clear cb cr i1 i2 i3 i4 hwq HK0 HK1 HFi HNe
  go_wp2_with fail
  have hS : ∀ k, S k → k < wq.heap.size := fun k hk => Nat.lt_of_lt_of_le (HP.out.lt k hk) HBq.out.size
  have hNS : ¬ S N := fun h => by have := HP.out.lt N h; have := HNn.out; omega
  have hNS1 : ¬ S (N + 1) := fun h => by have := HP.out.lt _ h; have := HNn.out; omega
  have HCx : Hid (∀ c0 c1 : Nat, True) := fun _ _ => trivial
  refine (wattempt_any 61 #[] #[.pointer (some ⟨N, 0, none⟩), .pointer (some ⟨N + 1, 0, none⟩)] (fun args w => by kernel_rfl) l wq (hS l HSl.out)
    (fun c0 w2 => c0 = x ∧ ∃ w1, Below wq.heap.size wq w1 ∧ w1.heap.size = wq.heap.size + 1 ∧ ∃ c', c' ≤ c + 100 ∧ PNx w1 S d l c' q s' f' R' false w2) (fun w1 hb1 hs1 => ?_)).mono ?_
  · refine (HWork.out w1 ((HP.out.below HBq.out).below hb1) (HKq0.out.keep hb1) hNS (HKq1.out.keep hb1) hNS1).mono ?_
    rintro e w2 ⟨hm, c', hc', hp⟩
    obtain ⟨c0, k1, ⟨k2, k3⟩, k4⟩ := works_of hS hb1 hs1 hm hp
    exact ⟨c0, k1, ⟨k2, w1, hb1, hs1, c', hc', hp⟩, k4⟩
  · rintro e w2 ⟨c0, w3, ⟨k1, w1, hb1, hs1, c', hc', hp⟩, k2⟩
    obtain ⟨rfl, hp⟩ := tried_next hS ⟨c0, w3, ⟨k1, w1, hb1, hs1, hp⟩, k2⟩
    have HPn := Lib.hid (PNx.pre HBq.out HP.out.lt hp)
    have HC' := Lib.hid hc'
    clear hp cbq hc' k2 hb1 hs1 k1
    go_wp2
    go_ret
    exact ⟨rfl, c', HC'.out, by rw [← HF'.out]; exact HPn.out⟩

set_option maxHeartbeats 1000000 in
theorem wTrim_over {w : World} {S : Nat → Prop} {d l c : Nat} {q : Nm} {s : St} {f : Nat} {R : List (List UInt8)} (h : Pr w S d l c q s f R true) (m : Int) :
    Calls Tryz.prog 33 #[.pointer (some ⟨l, 0, none⟩), .int .u64 m] w fun e w' => e = .returned (.int .i64 6) ∧ Below w.heap.size w w' := by
  obtain ⟨a, c', hb, -⟩ := h.log
  have HB := Lib.hid hb
  clear h hb
  go_enter Tryz.func33, Tryz.ntmps33
  go_wp2_with fail
  have hb0 : Below w.heap.size w ((w.alloc (.cells #[.pointer (some ⟨l, 0, none⟩)] 37)).alloc (.cells #[.int .u64 m] 32)) := ((Below.refl _ w).alloc (Nat.le_refl _) _).alloc (by simp) _
  have HB0 := Lib.hid hb0
  refine (wover_any (HB.out.keep hb0)).mono ?_
  rintro e w' ⟨rfl, rfl⟩
  clear hb0
  go_wp2
  go_ret
  exact ⟨rfl, HB0.out⟩

set_option maxHeartbeats 1000000 in
theorem wTrim_range {w : World} {S : Nat → Prop} {d l c : Nat} {q : Nm} {s : St} {f : Nat} {R : List (List UInt8)} (h : Pr w S d l c q s f R false) (m : Nat) (hm : m < f ∨ f + R.length < m) :
    Calls Tryz.prog 33 #[.pointer (some ⟨l, 0, none⟩), .int .u64 m] w fun e w' => e = .returned (.int .i64 9) ∧ Below w.heap.size w w' := by
  obtain ⟨a, c', hb, -, hlim⟩ := h.log
  have HB := Lib.hid hb
  have HM := Lib.hid hm
  have HLim := Lib.hid hlim
  clear h hb hm hlim
  obtain ⟨n, hn⟩ : ∃ n, n = f + R.length := ⟨_, rfl⟩
  have HN := Lib.hid hn
  clear hn
  go_enter Tryz.func33, Tryz.ntmps33
  go_wp2_with fail
  have hb0 : Below w.heap.size w ((w.alloc (.cells #[.pointer (some ⟨l, 0, none⟩)] 37)).alloc (.cells #[.int .u64 m] 32)) := ((Below.refl _ w).alloc (Nat.le_refl _) _).alloc (by simp) _
  have hk0 : Blk ((w.alloc (.cells #[.pointer (some ⟨l, 0, none⟩)] 37)).alloc (.cells #[.int .u64 m] 32)) w.heap.size 37 #[.pointer (some ⟨l, 0, none⟩)] := (Blk.new w _ _).alloc _
  have hk1 := Blk.newAt (w.alloc (.cells #[.pointer (some ⟨l, 0, none⟩)] 37)) 32 #[.int .u64 m] _ (w.heap.size + 1) (by simp) rfl
  obtain ⟨w0, hw0⟩ : ∃ w0, w0 = (w.alloc (.cells #[.pointer (some ⟨l, 0, none⟩)] 37)).alloc (.cells #[.int .u64 m] 32) := ⟨_, rfl⟩
  rw [← hw0] at hb0 hk0 hk1 ⊢
  obtain ⟨N, hN⟩ : ∃ N, N = w.heap.size := ⟨_, rfl⟩
  rw [← hN] at hk0 hk1 ⊢
  have HB0 := Lib.hid hb0
  have HK0 := Lib.hid hk0
  have HK1 := Lib.hid hk1
  refine (wover_any (HB.out.keep hb0)).mono ?_
  rintro e w' ⟨rfl, rfl⟩
  clear hb0 hw0 hN hk0 hk1
  have cb : w'.cell? ⟨N, 0, none⟩ = some (.pointer (some ⟨l, 0, none⟩)) := by rw [HK0.out.cell]; rfl
  have cr : w'.cell? ⟨N + 1, 0, none⟩ = some (.int .u64 (m : Int)) := by rw [HK1.out.cell]; rfl
  have HFi : Hid (∀ K, Calls Tryz.prog 29 #[.pointer (some ⟨l, 0, none⟩)] (w'.drewN K) fun e w2 => e = .returned (.int .u64 (f : Int)) ∧ ∃ m, w2 = w'.drewN m) := fun K => (wfirst_any (w := w'.drewN K) (HB.out.keep (below_dn HB0.out K))).mono fun e w2 h => ⟨h.1, K, h.2⟩
  have HNe : Hid (∀ K, Calls Tryz.prog 30 #[.pointer (some ⟨l, 0, none⟩)] (w'.drewN K) fun e w2 => e = .returned (.int .u64 (n : Int)) ∧ ∃ m, w2 = w'.drewN m) := fun K => (wnext_any (w := w'.drewN K) (HB.out.keep (below_dn HB0.out K)) (by have := HLim.out; omega)).mono fun e w2 h => by
    obtain ⟨h1, k, h2⟩ := h
    exact ⟨by rw [h1, HN.out], K + k, by rw [h2]; exact World.drewN_drewN _ _ _⟩
  by_cases h1 : m < f
  · have i1 : decide ((m : Int) < (f : Int)) = true := by simpa using h1
    have i2 : decide (m < f) = true := by simpa using h1
    go_wp2
    go_quiet (first | with_reducible exact HFi.out _ | with_reducible exact HNe.out _)
    clear cb cr
    go_wp2
    go_ret
    exact ⟨rfl, below_dn HB0.out _⟩
  · have h2 : n < m := by have := HM.out; have := HN.out; omega
    have i1 : decide ((m : Int) < (f : Int)) = false := by simpa using h1
    have i2 : decide (m < f) = false := by simpa using h1
    have i3 : decide ((n : Int) < (m : Int)) = true := by simpa using h2
    have i4 : decide (n < m) = true := by simpa using h2
    go_wp2
    go_quiet (first | with_reducible exact HFi.out _ | with_reducible exact HNe.out _)
    clear cb cr
    go_wp2
    go_ret
    exact ⟨rfl, below_dn HB0.out _⟩

set_option maxHeartbeats 1000000 in
theorem wTrim_any {w : World} {S : Nat → Prop} {d l c : Nat} {q : Nm} {s : St} {f k : Nat} {R : List (List UInt8)} (hq : q.length ≤ 4) (h : Pr w S d l c q s f R false) (hc : c + 100 ≤ 2000) (hk : k ≤ R.length) :
    Calls Tryz.prog 33 #[.pointer (some ⟨l, 0, none⟩), .int .u64 ((f + k : Nat) : Int)] w (Tells w S d l (c + 100) (trimA q s f k).1 q (trimA q s f k).2 (if (trimA q s f k).1 = 0 then f + k else f) (if (trimA q s f k).1 = 0 then R.drop k else R)) := by
  obtain ⟨a, c', hb, hSl, hlim⟩ := h.log
  have HB := Lib.hid hb
  have HP := Lib.hid h
  have HSl := Lib.hid hSl
  have HLim := Lib.hid hlim
  have hmf : ∀ (fn : Fn) (first cap : Array Value) (w : World), (Instr.makeFunc fn first cap).run Tryz.prog w = .ok (.func fn first cap) w := fun _ _ _ _ => rfl
  obtain ⟨R', hR'⟩ : ∃ R', R' = (if (trimA q s f k).1 = 0 then R.drop k else R) := ⟨_, rfl⟩
  obtain ⟨f', hf'⟩ : ∃ f', f' = (if (trimA q s f k).1 = 0 then f + k else f) := ⟨_, rfl⟩
  obtain ⟨s', hs'⟩ : ∃ s', s' = (trimA q s f k).2 := ⟨_, rfl⟩
  obtain ⟨x, hx⟩ : ∃ x, x = (trimA q s f k).1 := ⟨_, rfl⟩
  have hwork : ∀ w1, Pr w1 S d l c q s f R false → ∀ {Lb Nb : Nat}, Blk w1 Lb 37 #[.pointer (some ⟨l, 0, none⟩)] → ¬ S Lb → Blk w1 Nb 32 #[.int .u64 ((f + k : Nat) : Int)] → ¬ S Nb →
      Calls Tryz.prog 63 #[.pointer (some ⟨Lb, 0, none⟩), .pointer (some ⟨Nb, 0, none⟩)] w1 fun e w' => Must x e ∧ ∃ c', c' ≤ c + 100 ∧ PNx w1 S d l c' q s' f' R' false w' := fun w1 h1 Lb Nb h2 h3 h4 h5 => by
    refine (trim_work hq h1 hc hk h2 h3 h4 h5).mono ?_
    rintro e w2 ⟨hm, c', hc', hp⟩
    rw [← hx] at hm
    rw [hR', hf', hs']
    exact ⟨hm, c', hc', hp⟩
  have HWork := Lib.hid @hwork
  rw [← hR', ← hf', ← hs', ← hx]
  obtain ⟨m, hm⟩ : ∃ m, m = f + k := ⟨_, rfl⟩
  obtain ⟨n, hn⟩ : ∃ n, n = f + R.length := ⟨_, rfl⟩
  rw [← hm] at HWork ⊢
  have h1 : ¬ m < f := by omega
  have h2 : ¬ n < m := by omega
  have HN := Lib.hid hn
  have HF' := Lib.hid hf'
  clear h hb hc hSl hR' hs' hx hwork hk hlim hm hn hf'
  go_enter Tryz.func33, Tryz.ntmps33
  go_wp2_with fail
  have hb0 : Below w.heap.size w ((w.alloc (.cells #[.pointer (some ⟨l, 0, none⟩)] 37)).alloc (.cells #[.int .u64 m] 32)) := ((Below.refl _ w).alloc (Nat.le_refl _) _).alloc (by simp) _
  have hk0 : Blk ((w.alloc (.cells #[.pointer (some ⟨l, 0, none⟩)] 37)).alloc (.cells #[.int .u64 m] 32)) w.heap.size 37 #[.pointer (some ⟨l, 0, none⟩)] := (Blk.new w _ _).alloc _
  have hk1 := Blk.newAt (w.alloc (.cells #[.pointer (some ⟨l, 0, none⟩)] 37)) 32 #[.int .u64 m] _ (w.heap.size + 1) (by simp) rfl
  obtain ⟨w0, hw0⟩ : ∃ w0, w0 = (w.alloc (.cells #[.pointer (some ⟨l, 0, none⟩)] 37)).alloc (.cells #[.int .u64 m] 32) := ⟨_, rfl⟩
  rw [← hw0] at hb0 hk0 hk1 ⊢
  obtain ⟨N, hN⟩ : ∃ N, N = w.heap.size := ⟨_, rfl⟩
  rw [← hN] at hk0 hk1 ⊢
  have HNn := Lib.hid hN
  have HB0 := Lib.hid hb0
  have HK0 := Lib.hid hk0
  have HK1 := Lib.hid hk1
  refine (wover_any (HB.out.keep hb0)).mono ?_
  rintro e w' ⟨rfl, rfl⟩
  clear hb0 hw0 hN hk0 hk1
  have cb : w'.cell? ⟨N, 0, none⟩ = some (.pointer (some ⟨l, 0, none⟩)) := by rw [HK0.out.cell]; rfl
  have cr : w'.cell? ⟨N + 1, 0, none⟩ = some (.int .u64 (m : Int)) := by rw [HK1.out.cell]; rfl
  have HFi : Hid (∀ K, Calls Tryz.prog 29 #[.pointer (some ⟨l, 0, none⟩)] (w'.drewN K) fun e w2 => e = .returned (.int .u64 (f : Int)) ∧ ∃ m, w2 = w'.drewN m) := fun K => (wfirst_any (w := w'.drewN K) (HB.out.keep (below_dn HB0.out K))).mono fun e w2 h => ⟨h.1, K, h.2⟩
  have HNe : Hid (∀ K, Calls Tryz.prog 30 #[.pointer (some ⟨l, 0, none⟩)] (w'.drewN K) fun e w2 => e = .returned (.int .u64 (n : Int)) ∧ ∃ m, w2 = w'.drewN m) := fun K => (wnext_any (w := w'.drewN K) (HB.out.keep (below_dn HB0.out K)) (by have := HLim.out; omega)).mono fun e w2 h => by
    obtain ⟨h1, k, h2⟩ := h
    exact ⟨by rw [h1, HN.out], K + k, by rw [h2]; exact World.drewN_drewN _ _ _⟩
  have i1 : decide ((m : Int) < (f : Int)) = false := by simpa using h1
  have i2 : decide (m < f) = false := by simpa using h1
  have i3 : decide ((n : Int) < (m : Int)) = false := by simpa using h2
  have i4 : decide (n < m) = false := by simpa using h2
  go_wp2
  go_quiet (first | with_reducible exact HFi.out _ | with_reducible exact HNe.out _)
  have HBq := Lib.hid (below_dn HB0.out nq)
  obtain ⟨wq, hwq⟩ : ∃ wq, wq = w'.drewN nq := ⟨_, rfl⟩
  have HKq0 : Hid (Blk wq N 37 #[.pointer (some ⟨l, 0, none⟩)]) := by rw [hwq]; exact HK0.out
  have HKq1 : Hid (Blk wq (N + 1) 32 #[.int .u64 (m : Int)]) := by rw [hwq]; exact HK1.out
  rw [← hwq] at HBq ⊢
  have cbq : wq.cell? ⟨N, 0, none⟩ = some (.pointer (some ⟨l, 0, none⟩)) := by rw [HKq0.out.cell]; rfl
  clear cb cr i1 i2 i3 i4 hwq HK0 HK1 HFi HNe
  go_wp2_with fail
  have hS : ∀ k, S k → k < wq.heap.size := fun k hk => Nat.lt_of_lt_of_le (HP.out.lt k hk) HBq.out.size
  have hNS : ¬ S N := fun h => by have := HP.out.lt N h; have := HNn.out; omega
  have hNS1 : ¬ S (N + 1) := fun h => by have := HP.out.lt _ h; have := HNn.out; omega
  have HCx : Hid (∀ c0 c1 : Nat, True) := fun _ _ => trivial
  refine (wattempt_any 63 #[] #[.pointer (some ⟨N, 0, none⟩), .pointer (some ⟨N + 1, 0, none⟩)] (fun args w => by kernel_rfl) l wq (hS l HSl.out)
    (fun c0 w2 => c0 = x ∧ ∃ w1, Below wq.heap.size wq w1 ∧ w1.heap.size = wq.heap.size + 1 ∧ ∃ c', c' ≤ c + 100 ∧ PNx w1 S d l c' q s' f' R' false w2) (fun w1 hb1 hs1 => ?_)).mono ?_
  · refine (HWork.out w1 ((HP.out.below HBq.out).below hb1) (HKq0.out.keep hb1) hNS (HKq1.out.keep hb1) hNS1).mono ?_
    rintro e w2 ⟨hm, c', hc', hp⟩
    obtain ⟨c0, k1, ⟨k2, k3⟩, k4⟩ := works_of hS hb1 hs1 hm hp
    exact ⟨c0, k1, ⟨k2, w1, hb1, hs1, c', hc', hp⟩, k4⟩
  · rintro e w2 ⟨c0, w3, ⟨k1, w1, hb1, hs1, c', hc', hp⟩, k2⟩
    obtain ⟨rfl, hp⟩ := tried_next hS ⟨c0, w3, ⟨k1, w1, hb1, hs1, hp⟩, k2⟩
    have HPn := Lib.hid (PNx.pre HBq.out HP.out.lt hp)
    have HC' := Lib.hid hc'
    clear hp cbq hc' k2 hb1 hs1 k1
    go_wp2
    go_ret
    exact ⟨rfl, c', HC'.out, HPn.out⟩
end Go.Proofs.YthaggdkfaglgaaaGreatDoor

/- A log is loaded. -/
namespace Go.Proofs.YthaggdkfaglgaaaGreatDoor
set_option maxRecDepth 20000
open Go.RowKit Go.Maps DiskMath WalMath FrameMath Reg

theorem PNx.trans {w w1 w2 : World} {S : Nat → Prop} {d l c1 c2 : Nat} {q : Nm} {s1 s2 : St} {f1 f2 : Nat} {R1 R2 : List (List UInt8)} {o1 o2 : Bool} (hS : ∀ k, S k → k < w.heap.size) (h1 : PNx w S d l c1 q s1 f1 R1 o1 w1) (h2 : PNx w1 (more w S w1) d l c2 q s2 f2 R2 o2 w2) : PNx w S d l c2 q s2 f2 R2 o2 w2 := by
  have e1 := h1.only.size
  have e2 := h2.only.size
  refine ⟨h2.pr.wide (fun k hk => ?_) fun k hk => ?_, h1.only.then h2.only fun k hk hs => ?_⟩
  · rcases hk with (hk | hk) | hk
    · exact .inl hk
    · exact .inr ⟨hk.1, by omega⟩
    · exact .inr ⟨by omega, hk.2⟩
  · rcases hk with hk | hk
    · have := hS k hk; omega
    · exact hk.2
  · rcases hs with hs | hs
    · exact hs
    · omega

def LoadEnd (w : World) (S : Nat → Prop) (d l c : Nat) (q : Nm) (s : St) (f : Nat) (R : List (List UInt8)) (e : Ending) (w' : World) : Prop :=
  ∃ j, j ≤ R.length ∧ (∀ i t, i < j → R[i]? = some t → readF s.now q (f + i) = some t) ∧ readF s.now q (f + j) = none ∧ Must (openA q s f j).1 e ∧ ∃ c', c' ≤ c + 200 ∧ PNx w S d l c' q (openA q s f j).2 f (R.take j) false w'

/-- Where load stands. -/
def LoadAt (w : World) (S : Nat → Prop) (d l c : Nat) (q : Nm) (s : St) (f : Nat) (R : List (List UInt8)) (i : Nat) (wr : World) : Prop :=
  i ≤ R.length ∧ (∀ i' t, i' < i → R[i']? = some t → readF s.now q (f + i') = some t) ∧ PNx w S d l c q s f (R.take i) false wr

/-- How long the list is that a log holds. -/
def listLen (w : World) (l : Nat) : Nat := match w.cell? ⟨l, 3, none⟩ with
  | some (.slice _ n _) => n
  | _ => 0

/-- A slice and a yes. -/
def TwoY (B : Nat) (t : List UInt8) (u : Value) (W : World) : Prop := ∃ v, u = .tuple #[v, .bool true] ∧ Row W B v t
theorem TwoY.stays {B : Nat} {t : List UInt8} {u : Value} {W W' : World} (h : TwoY B t u W) (hb : Below W.heap.size W W') : TwoY B t u W' := by
  obtain ⟨v, h1, h2⟩ := h
  exact ⟨v, h1, h2.below hb⟩

theorem read_which {q : Nm} {F : Fs} {f : Nat} {R : List (List UInt8)} {lo i : Nat} (h : May q F f R lo) (hi : i ≤ R.length) {t : List UInt8} (hr : readF F q (f + i) = some t) : i < R.length ∧ R[i]? = some t := by
  have hlim := h.lim
  by_cases hlt : i < R.length
  · refine ⟨hlt, ?_⟩
    have h1 : R[i]? = some R[i] := List.getElem?_eq_getElem hlt
    rcases h.read_one h1 with h2 | h2
    · rw [h2] at hr; cases hr
    · rw [h2.1] at hr; rw [h1]; exact hr
  · rw [h.read_end (by omega) (by omega)] at hr
    cases hr

set_option maxHeartbeats 2000000 in
theorem load_any {w : World} {S : Nat → Prop} {d l c : Nat} {q : Nm} {s : St} {f lo : Nat} {R : List (List UInt8)} (hq : q.length ≤ 4) (h : Pr w S d l c q s 0 [] false) (hc : c + 200 ≤ 2000) (hoff : s.off = false) (hm : May q s.now f R lo) (ht : Tab w) (hS0 : ¬ S 0) (he : Err w) (hS2 : ¬ S 2) :
    Calls Tryz.prog 56 #[.pointer (some ⟨l, 0, none⟩)] w (LoadEnd w S d l c q s f R) := by
  have hS := h.lt
  obtain ⟨T, U, hd, hl, hT, hU, hTU⟩ := h.ex
  obtain ⟨v, ls, l1, l2, l3, l4, l5, l6, l7⟩ := hl.ex
  have HS := Lib.hid hS
  have HD := Lib.hid hd
  have HP := Lib.hid h
  have HM := Lib.hid hm
  have HTab := Lib.hid ht
  have HS0 := Lib.hid hS0
  have HS2 := Lib.hid hS2
  have HErr := Lib.hid he
  have HOff := Lib.hid hoff
  have HC := Lib.hid hc
  have HLim := Lib.hid hm.lim
  have HB := Lib.hid l1
  have cl0 : w.cell? ⟨l, 0, none⟩ = some (dp d) := by rw [l1.cell]; rfl
  have cl1 : w.cell? ⟨l, 1, none⟩ = some (nm q) := by rw [l1.cell]; rfl
  have cl2 : w.cell? ⟨l, 2, none⟩ = some (.int .u64 0) := by rw [l1.cell]; rfl
  have fl2 : w.frozen? ⟨l, 2, none⟩ = false := l1.frozen 2
  have hstart : ∀ w2, Below w.heap.size w w2 → PNx w S d l c q s f [] false (w2.setCell ⟨l, 2, none⟩ (.int .u64 (f : Int))) := fun w2 hb => by
    have hls : ls = [] := List.eq_nil_of_length_eq_zero (by simpa using l3)
    have hb2 := l1.keep hb
    exact pnx_list (us := ls) (us' := ls) hS hT hU hTU l1 l2 l5 l6 hl.lt ((Next.refl hd).post hb) (OnlyS.refl _ _) (l2.same fun k hk => hb.block k (l2.lt hk)) (fun k hk => hk) l3 (fun i u t hu ht => by simp at ht) (fun u hu => by rw [hls] at hu; cases hu) (by have := hm.lim; simp; omega)
      ((OnlyS.refl (fun k => k = l) w2).setCell (p := ⟨l, 2, none⟩) (fun _ => rfl) _) (Blk.set hb2 2 _)
  have HStart := Lib.hid hstart
  clear hS hd hl hT hU hTU l1 l2 l3 l4 l5 l6 l7 h hm ht hS0 hS2 he hoff hc hstart
  go_enter Tryz.func56, Tryz.ntmps56
  go_wp2_with fail
  refine (wmarked_any hq HD.out HM.out HErr.out).mono ?_
  rintro e w2 ⟨rfl, hb2⟩
  have HB2 := Lib.hid (HB.out.keep hb2)
  have HPn := Lib.hid (HStart.out w2 hb2)
  have cm2 : w2.cell? ⟨l, 2, none⟩ = some (.int .u64 0) := by rw [HB2.out.cell]; rfl
  have fm2 : w2.frozen? ⟨l, 2, none⟩ = false := HB2.out.frozen 2
  have HLA : Hid (LoadAt w S d l c q s f R 0 (w2.setCell ⟨l, 2, none⟩ (.int .u64 (f : Int)))) := ⟨Nat.zero_le _, fun i t hi => absurd hi (Nat.not_lt_zero i), by rw [List.take_zero]; exact HPn.out⟩
  clear hb2 cl0 cl1 cl2 fl2 HB
  go_wp2
  go_loopw [] (fun wr => ∃ i, LoadAt w S d l c q s f R i wr) (fun wr => R.length - listLen wr l)
  case atStart => exact ⟨0, HLA.out⟩
  case round =>
    obtain ⟨i, hi, hrd, hpn⟩ := hrel
    have HRd := Lib.hid hrd
    have HPi := Lib.hid hpn
    obtain ⟨T, U, kd, kl, kT, kU, kTU⟩ := hpn.pr.ex
    obtain ⟨v, ls, k1, k2, k3, k4, k5, k6, k7⟩ := kl.ex
    obtain ⟨va, vc, rfl, -⟩ := k2.form
    have klen : ls.length = i := by rw [k3, List.length_take]; omega
    have HI := Lib.hid hi
    have KD := Lib.hid kd
    have K1 := Lib.hid k1
    have KLen := Lib.hid klen
    have hTabr : Tab wr := fun j hj => by
      have h1 := HTab.out j hj
      have h2 := World.block_lt_of_cell? w _ h1
      rw [← h1]
      unfold World.cell?
      rw [hpn.only.block 0 h2 HS0.out]
    have HTr := Lib.hid hTabr
    have hgt : listLen wr l = i := by unfold listLen; rw [k1.cell]; exact klen
    have HGt := Lib.hid hgt
    have hG : ∀ W W' : World, Below wr.heap.size wr W → Below W.heap.size W W' → Below wr.heap.size wr W' := fun W W' h h' => h.trans (h'.mono h.size)
    obtain ⟨n, hn⟩ : ∃ n, n = f + ls.length := ⟨_, rfl⟩
    have HNn := Lib.hid hn
    have hn100 : n < 100 := by rw [hn, klen]; have := HLim.out; omega
    have HN100 := Lib.hid hn100
    have e0 : n = f + i := by rw [hn, klen]
    have HE0 := Lib.hid e0
    have hrest : ∀ w', Pr w' (more w S wr) d l c q s f (R.take i) false → True := fun _ _ => trivial
    have KL := Lib.hid kl
    have KT := Lib.hid kT
    have KU := Lib.hid kU
    have KTU := Lib.hid kTU
    have KS := Lib.hid hpn.pr.lt
    have K2 := Lib.hid k2
    have K3 := Lib.hid k3
    have K4 := Lib.hid k4
    have K5 := Lib.hid k5
    have K6 := Lib.hid k6
    have K7 := Lib.hid k7
    have hErr : Err wr := by
      obtain ⟨te, pe, hce⟩ := HErr.out
      refine ⟨te, pe, ?_⟩
      rw [← hce]
      unfold World.cell?
      rw [hpn.only.block _ (World.block_lt_of_cell? w _ hce) HS2.out]
    have hT2 : ¬ T 2 := fun h => by
      obtain ⟨te, pe, hce⟩ := HErr.out
      have h1 := World.block_lt_of_cell? w _ hce
      simp only at h1
      rcases kT _ h with h2 | h2
      · exact HS2.out h2
      · omega
    have HErr2 := Lib.hid hErr
    have HT2 := Lib.hid hT2
    clear hErr hT2 hrd hpn kd kl kT kU kTU k1 k2 k3 k4 k5 k6 k7 klen hTabr hgt hn hn100 e0 hi hrest
    cases hr : readF s.now q n with
    | none =>
      have HR := Lib.hid hr
      clear hr
      go_upto_region 1 with fail
      refine region_by [(13, .is (.pointer (some ⟨l, 0, none⟩))), (14, .is (.pointer (some ⟨l, 0, none⟩))), (15, .is (.pointer (some ⟨l, 0, none⟩))), (16, .is (fv (some ⟨d, 0, none⟩) q)), (17, .is (.pointer (some ⟨l, 0, none⟩))), (18, .is (.int .u64 (n : Int))), (19, .is (.tuple #[.slice none 0 0, .bool false])), (12, .is (.tuple #[.slice none 0 0, .bool false])), (20, .is (.slice none 0 0)), (21, .is (.bool false)), (2, .is (.slice none 0 0)), (3, .is (.bool false))] [0, 3] (fun W => Below wr.heap.size wr W) (by kernel_rfl) (by kernel_rfl) (by kernel_rfl) (by kernel_rfl) (by kernel_rfl) ((Below.refl _ _).drew) ?_ ?_
      · refine ⟨?c0, ?c1, ?c2, ?c3, ?c4, ?c5, ?c6, ?c7, ?c8, ?c9, ?c10, ?c11, trivial⟩
        case c0 => exact ask_copy (guard_none rfl) (.tmp 0) (.inl rfl) (by intro k hk; cases hk; rfl)
        case c1 => exact ask_exec (guard_none rfl) (.pointer (some ⟨l, 0, none⟩)) rfl rfl (by intro k hk; cases hk; rfl) (fun W hW => by kernel_rfl)
        case c2 => exact ask_field (guard_none rfl) _ (.tmp 14) 0 (.pointer (some ⟨l, 0, none⟩)) (.pointer (some ⟨l, 0, none⟩)) rfl rfl (by intro k hk; cases hk; rfl) (fun W => by kernel_rfl)
        case c3 => exact ask_load (guard_none rfl) _ (.tmp 15) (.pointer (some ⟨l, 0, none⟩)) (fv (some ⟨d, 0, none⟩) q) rfl rfl (by intro k hk; cases hk; rfl) (fun W hW => load_fl (K1.out.keep hW))
        case c4 => exact ask_copy (guard_none rfl) (.tmp 0) (.inl rfl) (by intro k hk; cases hk; rfl)
        case c5 => exact ask_call hG (guard_none rfl) _ _ _ #[.pointer (some ⟨l, 0, none⟩)] (.is (.int .u64 (n : Int))) rfl (by kernel_rfl) rfl rfl (by intro k hk; cases hk; rfl) (fun W hW => (wnext_any (K1.out.keep hW) (by have := HN100.out; have := HNn.out; omega)).mono fun e w' h => by obtain ⟨h1, m, rfl⟩ := h; exact ⟨_, h1, by rw [HNn.out]; rfl, below_dn (Below.refl _ _) m⟩)
        case c6 => exact ask_call hG (guard_none rfl) _ _ _ #[fv (some ⟨d, 0, none⟩) q, .int .u64 (n : Int)] (.is (.tuple #[.slice none 0 0, .bool false])) rfl (by kernel_rfl) rfl rfl (by intro k hk; cases hk; rfl) (fun W hW => (wread_any hq (KD.out.below hW) HOff.out HN100.out (HTr.out.below (Nat.le_refl _) hW)).mono fun e w' h => by
          obtain ⟨h1, h4⟩ := h
          rcases h4 with ⟨v, t, h2, _⟩ | ⟨h2, h3⟩
          · rw [HR.out] at h2; cases h2
          · exact ⟨_, h3, rfl, h1⟩)
        case c7 => exact ask_copy (guard_none rfl) (.tmp 19) (.inl rfl) (by intro k hk; cases hk; rfl)
        case c8 => exact ask_sat (guard_none rfl) (.is (.slice none 0 0)) (by intro k hk; cases hk; rfl) (fun x W hW hk => ⟨_, by have e1 : x 12 = .tuple #[.slice none 0 0, .bool false] := hk 12 rfl; simp [execOp, evalBy, e1, go_sem], rfl⟩)
        case c9 => exact ask_sat (guard_none rfl) (.is (.bool false)) (by intro k hk; cases hk; rfl) (fun x W hW hk => ⟨_, by have e1 : x 12 = .tuple #[.slice none 0 0, .bool false] := hk 12 rfl; simp [execOp, evalBy, e1, go_sem], rfl⟩)
        case c10 => exact ask_copy (guard_none rfl) (.tmp 20) (.inr rfl) (by intro k hk; cases hk; rfl)
        case c11 => exact ask_copy (guard_none rfl) (.tmp 21) (.inr rfl) (by intro k hk; cases hk; rfl)
      · intro a' W hW hd' hs' hf'
        have t0 : a'.tmps.getD 0 undef = .pointer (some ⟨l, 0, none⟩) := hf' 0 rfl
        have t3 : a'.tmps.getD 3 undef = .bool false := hf' 3 rfl
        obtain ⟨us, hus, ha'⟩ := act_open 50 a' hs' hd'
        rw [← hus] at t0 t3
        have el : ((List.range 50).map us).toArray = #[us 0, us 1, us 2, us 3, us 4, us 5, us 6, us 7, us 8, us 9, us 10, us 11, us 12, us 13, us 14, us 15, us 16, us 17, us 18, us 19, us 20, us 21, us 22, us 23, us 24, us 25, us 26, us 27, us 28, us 29, us 30, us 31, us 32, us 33, us 34, us 35, us 36, us 37, us 38, us 39, us 40, us 41, us 42, us 43, us 44, us 45, us 46, us 47, us 48, us 49] := rfl
        rw [el] at ha'
        subst ha'
        rw [t0, t3]
        have HW := Lib.hid hW
        clear hus t0 t3 el hf' hs' hd' hW
        have K1W := Lib.hid (K1.out.keep HW.out)
        have KDW := Lib.hid (KD.out.below HW.out)
        go_upto_region 4 with fail
        have hG4 : ∀ W2 W' : World, Below W.heap.size W W2 → Below W2.heap.size W2 W' → Below W.heap.size W W' := fun W W' h h' => h.trans (h'.mono h.size)
        refine region_tails_by 10 [(34, .is (.pointer (some ⟨l, 0, none⟩))), (35, .is (.pointer (some ⟨l, 0, none⟩))), (36, .is (.pointer (some ⟨l, 0, none⟩))), (37, .is (fv (some ⟨d, 0, none⟩) q)), (38, .is (.pointer (some ⟨l, 0, none⟩))), (39, .is (.pointer (some ⟨l, 0, none⟩))), (40, .is (.pointer (some ⟨l, 2, none⟩))), (41, .is (.int .u64 (f : Int))), (42, .is (.pointer (some ⟨l, 0, none⟩))), (43, .is (.int .u64 (n : Int)))] [0, 37, 41, 43] (fun W4 => Below W.heap.size W W4) (by kernel_rfl) (by kernel_rfl) (by kernel_rfl) (by kernel_rfl) (by kernel_rfl) (by decide) (by kernel_rfl) (by kernel_rfl) ((Below.refl _ _).drew) ?_ ?_
        · refine ⟨?c0, ?c1, ?c2, ?c3, ?c4, ?c5, ?c6, ?c7, ?c8, ?c9, trivial⟩
          case c0 => exact ask_copy (guard_none rfl) (.tmp 0) (.inl rfl) (by intro k hk; cases hk; rfl)
          case c1 => exact ask_exec (guard_none rfl) (.pointer (some ⟨l, 0, none⟩)) rfl rfl (by intro k hk; cases hk; rfl) (fun W hW => by kernel_rfl)
          case c2 => exact ask_field (guard_none rfl) _ (.tmp 35) 0 (.pointer (some ⟨l, 0, none⟩)) (.pointer (some ⟨l, 0, none⟩)) rfl rfl (by intro k hk; cases hk; rfl) (fun W => by kernel_rfl)
          case c3 => exact ask_load (guard_none rfl) _ (.tmp 36) (.pointer (some ⟨l, 0, none⟩)) (fv (some ⟨d, 0, none⟩) q) rfl rfl (by intro k hk; cases hk; rfl) (fun W hW => load_fl (K1W.out.keep hW))
          case c4 => exact ask_copy (guard_none rfl) (.tmp 0) (.inl rfl) (by intro k hk; cases hk; rfl)
          case c5 => exact ask_exec (guard_none rfl) (.pointer (some ⟨l, 0, none⟩)) rfl rfl (by intro k hk; cases hk; rfl) (fun W hW => by kernel_rfl)
          case c6 => exact ask_field (guard_none rfl) _ (.tmp 39) 1 (.pointer (some ⟨l, 0, none⟩)) (.pointer (some ⟨l, 2, none⟩)) rfl rfl (by intro k hk; cases hk; rfl) (fun W => by kernel_rfl)
          case c7 => exact ask_load (guard_none rfl) _ (.tmp 40) (.pointer (some ⟨l, 2, none⟩)) (.int .u64 (f : Int)) rfl rfl (by intro k hk; cases hk; rfl) (fun W hW => load_u64 W _ _ (by rw [hW.cell (p := ⟨l, 2, none⟩) K1W.out.lt, K1W.out.cell]; rfl))
          case c8 => exact ask_copy (guard_none rfl) (.tmp 0) (.inl rfl) (by intro k hk; cases hk; rfl)
          case c9 => exact ask_call hG4 (guard_none rfl) _ _ _ #[.pointer (some ⟨l, 0, none⟩)] (.is (.int .u64 (n : Int))) rfl (by kernel_rfl) rfl rfl (by intro k hk; cases hk; rfl) (fun W hW => (wnext_any (K1W.out.keep hW) (by have := HN100.out; have := HNn.out; omega)).mono fun e w' h => by obtain ⟨h1, m, rfl⟩ := h; exact ⟨_, h1, by rw [HNn.out]; rfl, below_dn (Below.refl _ _) m⟩)
        · intro a' W4 hW4 hd' hs' hf'
          have t0 : a'.tmps.getD 0 undef = .pointer (some ⟨l, 0, none⟩) := hf' 0 rfl
          have t37 : a'.tmps.getD 37 undef = fv (some ⟨d, 0, none⟩) q := hf' 37 rfl
          have t41 : a'.tmps.getD 41 undef = .int .u64 (f : Int) := hf' 41 rfl
          have t43 : a'.tmps.getD 43 undef = .int .u64 (n : Int) := hf' 43 rfl
          obtain ⟨us, hus, ha'⟩ := act_open 50 a' hs' hd'
          rw [← hus] at t0 t37 t41 t43
          have el : ((List.range 50).map us).toArray = #[us 0, us 1, us 2, us 3, us 4, us 5, us 6, us 7, us 8, us 9, us 10, us 11, us 12, us 13, us 14, us 15, us 16, us 17, us 18, us 19, us 20, us 21, us 22, us 23, us 24, us 25, us 26, us 27, us 28, us 29, us 30, us 31, us 32, us 33, us 34, us 35, us 36, us 37, us 38, us 39, us 40, us 41, us 42, us 43, us 44, us 45, us 46, us 47, us 48, us 49] := rfl
          rw [el] at ha'
          subst ha'
          rw [t0, t37, t41, t43]
          have HW4 := Lib.hid hW4
          clear hus t0 t37 t41 t43 el hf' hs' hd' hW4
          simp only [List.drop_succ_cons, List.drop_zero]
          have HBB := Lib.hid (HW.out.trans (HW4.out.mono HW.out.size))
          go_wp2_with fail
          refine (wsweep_any hq (KDW.out.below HW4.out) HM.out.own (f := f) (nx := n) (by have := HLim.out; omega) HM.out.few HC.out (HErr2.out.below HBB.out) HT2.out).mono ?_
          rintro e w5 ⟨hmu, c1, hc1, h5⟩
          rw [HE0.out] at hmu h5
          have hnx := Next.pre HBB.out KD.out.lt h5
          have hcc : c1 ≤ c + 200 := by
            have h1 := HM.out.few
            rw [List.length_map] at hc1
            omega
          obtain ⟨x, hx⟩ : ∃ x, x = (sweepA (keepB q f (f + i)) (s.now.map (·.1)) s).1 := ⟨_, rfl⟩
          obtain ⟨s1, hs1⟩ : ∃ s1, s1 = (sweepA (keepB q f (f + i)) (s.now.map (·.1)) s).2 := ⟨_, rfl⟩
          rw [← hx] at hmu
          rw [← hs1] at hnx
          have hopen : openA q s f i = if x = 0 then s1.sync else (x, s1) := by
            unfold openA
            rw [← hx, ← hs1]
            by_cases h0 : x = 0
            · rw [if_pos h0, if_pos h0]
            · rw [if_neg h0, if_neg h0, hx, hs1]
          have hlast : readF s.now q (f + i) = none := by rw [← HE0.out]; exact HR.out
          have hfin : ∀ e w' t c', openA q s f i = t → c' ≤ c + 200 → Must t.1 e → Next wr T d c' t.2 w' → LoadEnd w S d l c q s f R e w' := fun e w' t c' h1 h2 h3 h4 => by
            refine ⟨i, HI.out, HRd.out, hlast, by rw [h1]; exact h3, c', h2, ?_⟩
            rw [h1]
            exact PNx.trans HS.out HPi.out (PNx.ofNext KS.out KT.out KU.out KTU.out KL.out h4)
          have HFin := Lib.hid hfin
          have HOp := Lib.hid hopen
          have HNx := Lib.hid hnx
          have HCc := Lib.hid hcc
          clear h5 hnx hcc hx hs1 hopen hlast hfin hc1
          by_cases hx0 : x = 0
          · obtain rfl := hmu.1 hx0
            have hop := HOp.out
            rw [if_pos hx0] at hop
            have HOp2 := Lib.hid hop
            have hTl : ¬ T l := fun h => KTU.out l h K5.out
            have HB5 := Lib.hid (HNx.out.blk K1.out hTl)
            have c50 : w5.cell? ⟨l, 0, none⟩ = some (dp d) := by rw [HB5.out.cell]; rfl
            have c51 : w5.cell? ⟨l, 1, none⟩ = some (nm q) := by rw [HB5.out.cell]; rfl
            clear hmu hx0 hop hTl
            go_wp2_with fail
            refine (wsync_any q HNx.out.disk).mono ?_
            rintro e w6 ⟨hmu, h6⟩
            have HN6 := Lib.hid (HNx.out.trans h6)
            clear h6 c50 c51
            obtain ⟨y, hy⟩ : ∃ y, y = s1.sync.1 := ⟨_, rfl⟩
            rw [← hy] at hmu
            have HY := Lib.hid hy
            clear hy
            by_cases hy0 : y = 0
            · obtain rfl := hmu.1 hy0
              have HMu := Lib.hid hmu
              clear hmu hy0
              go_wp2
              go_end0
              exact HFin.out _ _ _ _ HOp2.out HCc.out (by rw [← HY.out]; exact HMu.out) HN6.out
            · obtain rfl := hmu.2 hy0
              exact ⟨rfl, HFin.out _ _ _ _ HOp2.out HCc.out (by rw [← HY.out]; exact hmu) HN6.out⟩
          · obtain rfl := hmu.2 hx0
            have hop := HOp.out
            rw [if_neg hx0] at hop
            exact ⟨rfl, HFin.out _ _ _ _ hop HCc.out hmu HNx.out⟩
    | some t =>
      obtain ⟨hil, hit⟩ := read_which HM.out HI.out (by rw [← HE0.out]; exact hr)
      have HR := Lib.hid hr
      have HIl := Lib.hid hil
      have HIt := Lib.hid hit
      clear hr hil hit
      go_upto_region 1 with fail
      refine region_by [(13, .is (.pointer (some ⟨l, 0, none⟩))), (14, .is (.pointer (some ⟨l, 0, none⟩))), (15, .is (.pointer (some ⟨l, 0, none⟩))), (16, .is (fv (some ⟨d, 0, none⟩) q)), (17, .is (.pointer (some ⟨l, 0, none⟩))), (18, .is (.int .u64 (n : Int))), (19, (.sat (TwoY wr.heap.size t) (fun u W W' h hb => h.stays hb))), (12, (.sat (TwoY wr.heap.size t) (fun u W W' h hb => h.stays hb))), (20, .row wr.heap.size t), (21, .is (.bool true)), (2, .row wr.heap.size t), (3, .is (.bool true))] [0, 1, 2, 3, 4, 5, 6, 7, 8, 9, 10, 11, 34, 35, 36, 37, 38, 39, 40, 41, 42, 43, 44, 45, 46, 47, 48, 49] (fun W => Below wr.heap.size wr W) (by kernel_rfl) (by kernel_rfl) (by kernel_rfl) (by kernel_rfl) (by kernel_rfl) ((Below.refl _ _).drew) ?_ ?_
      · refine ⟨?c0, ?c1, ?c2, ?c3, ?c4, ?c5, ?c6, ?c7, ?c8, ?c9, ?c10, ?c11, trivial⟩
        case c0 => exact ask_copy (guard_none rfl) (.tmp 0) (.inl rfl) (by intro k hk; cases hk; rfl)
        case c1 => exact ask_exec (guard_none rfl) (.pointer (some ⟨l, 0, none⟩)) rfl rfl (by intro k hk; cases hk; rfl) (fun W hW => by kernel_rfl)
        case c2 => exact ask_field (guard_none rfl) _ (.tmp 14) 0 (.pointer (some ⟨l, 0, none⟩)) (.pointer (some ⟨l, 0, none⟩)) rfl rfl (by intro k hk; cases hk; rfl) (fun W => by kernel_rfl)
        case c3 => exact ask_load (guard_none rfl) _ (.tmp 15) (.pointer (some ⟨l, 0, none⟩)) (fv (some ⟨d, 0, none⟩) q) rfl rfl (by intro k hk; cases hk; rfl) (fun W hW => load_fl (K1.out.keep hW))
        case c4 => exact ask_copy (guard_none rfl) (.tmp 0) (.inl rfl) (by intro k hk; cases hk; rfl)
        case c5 => exact ask_call hG (guard_none rfl) _ _ _ #[.pointer (some ⟨l, 0, none⟩)] (.is (.int .u64 (n : Int))) rfl (by kernel_rfl) rfl rfl (by intro k hk; cases hk; rfl) (fun W hW => (wnext_any (K1.out.keep hW) (by have := HN100.out; have := HNn.out; omega)).mono fun e w' h => by obtain ⟨h1, m, rfl⟩ := h; exact ⟨_, h1, by rw [HNn.out]; rfl, below_dn (Below.refl _ _) m⟩)
        case c6 => exact ask_call hG (guard_none rfl) _ _ _ #[fv (some ⟨d, 0, none⟩) q, .int .u64 (n : Int)] (.sat (TwoY wr.heap.size t) (fun u W W' h hb => h.stays hb)) rfl (by kernel_rfl) rfl rfl (by intro k hk; cases hk; rfl) (fun W hW => (wread_any hq (KD.out.below hW) HOff.out HN100.out (HTr.out.below (Nat.le_refl _) hW)).mono fun e w' h => by
          obtain ⟨h1, h4⟩ := h
          rcases h4 with ⟨v, t', h2, h3, h5⟩ | ⟨h2, h3⟩
          · rw [HR.out] at h2
            cases h2
            exact ⟨_, h3, ⟨v, rfl, row_lower h5 hW.size⟩, h1⟩
          · rw [HR.out] at h2; cases h2)
        case c7 => exact ask_copy (guard_none rfl) (.tmp 19) (.inl rfl) (by intro k hk; cases hk; rfl)
        case c8 => exact ask_sat (guard_none rfl) _ (by intro k hk; cases hk; rfl) (fun x W hW hk => by obtain ⟨v, h1, h2⟩ : TwoY wr.heap.size t (x 12) W := hk 12 rfl; exact ⟨v, by simp [execOp, evalBy, h1, go_sem], h2⟩)
        case c9 => exact ask_sat (guard_none rfl) (.is (.bool true)) (by intro k hk; cases hk; rfl) (fun x W hW hk => by obtain ⟨v, h1, h2⟩ : TwoY wr.heap.size t (x 12) W := hk 12 rfl; exact ⟨_, by simp [execOp, evalBy, h1, go_sem], rfl⟩)
        case c10 => exact ask_copy (guard_none rfl) (.tmp 20) (.inr rfl) (by intro k hk; cases hk; rfl)
        case c11 => exact ask_copy (guard_none rfl) (.tmp 21) (.inr rfl) (by intro k hk; cases hk; rfl)
      · intro a' W hW hd' hs' hf'
        have t0 : a'.tmps.getD 0 undef = .pointer (some ⟨l, 0, none⟩) := hf' 0 rfl
        have t1 : a'.tmps.getD 1 undef = undef := hf' 1 rfl
        have t3 : a'.tmps.getD 3 undef = .bool true := hf' 3 rfl
        have t4 : a'.tmps.getD 4 undef = .pointer (some ⟨l, 0, none⟩) := hf' 4 rfl
        have t5 : a'.tmps.getD 5 undef = .pointer (some ⟨l, 0, none⟩) := hf' 5 rfl
        have t6 : a'.tmps.getD 6 undef = .pointer (some ⟨l, 0, none⟩) := hf' 6 rfl
        have t7 : a'.tmps.getD 7 undef = .pointer (some ⟨l, 0, none⟩) := hf' 7 rfl
        have t8 : a'.tmps.getD 8 undef = fv (some ⟨d, 0, none⟩) q := hf' 8 rfl
        have t9 : a'.tmps.getD 9 undef = .int .u64 (f : Int) := hf' 9 rfl
        have t10 : a'.tmps.getD 10 undef = .pointer (some ⟨l, 0, none⟩) := hf' 10 rfl
        have t11 : a'.tmps.getD 11 undef = .pointer (some ⟨l, 2, none⟩) := hf' 11 rfl
        have t34 : a'.tmps.getD 34 undef = undef := hf' 34 rfl
        have t35 : a'.tmps.getD 35 undef = undef := hf' 35 rfl
        have t36 : a'.tmps.getD 36 undef = undef := hf' 36 rfl
        have t37 : a'.tmps.getD 37 undef = undef := hf' 37 rfl
        have t38 : a'.tmps.getD 38 undef = undef := hf' 38 rfl
        have t39 : a'.tmps.getD 39 undef = undef := hf' 39 rfl
        have t40 : a'.tmps.getD 40 undef = undef := hf' 40 rfl
        have t41 : a'.tmps.getD 41 undef = undef := hf' 41 rfl
        have t42 : a'.tmps.getD 42 undef = undef := hf' 42 rfl
        have t43 : a'.tmps.getD 43 undef = undef := hf' 43 rfl
        have t44 : a'.tmps.getD 44 undef = undef := hf' 44 rfl
        have t45 : a'.tmps.getD 45 undef = undef := hf' 45 rfl
        have t46 : a'.tmps.getD 46 undef = undef := hf' 46 rfl
        have t47 : a'.tmps.getD 47 undef = undef := hf' 47 rfl
        have t48 : a'.tmps.getD 48 undef = undef := hf' 48 rfl
        have t49 : a'.tmps.getD 49 undef = undef := hf' 49 rfl
        have t2 : Row W wr.heap.size (a'.tmps.getD 2 undef) t := hf' 2 rfl
        obtain ⟨us, hus, ha'⟩ := act_open 50 a' hs' hd'
        rw [← hus] at t2 t0 t1 t3 t4 t5 t6 t7 t8 t9 t10 t11 t34 t35 t36 t37 t38 t39 t40 t41 t42 t43 t44 t45 t46 t47 t48 t49
        have el : ((List.range 50).map us).toArray = #[us 0, us 1, us 2, us 3, us 4, us 5, us 6, us 7, us 8, us 9, us 10, us 11, us 12, us 13, us 14, us 15, us 16, us 17, us 18, us 19, us 20, us 21, us 22, us 23, us 24, us 25, us 26, us 27, us 28, us 29, us 30, us 31, us 32, us 33, us 34, us 35, us 36, us 37, us 38, us 39, us 40, us 41, us 42, us 43, us 44, us 45, us 46, us 47, us 48, us 49] := rfl
        rw [el] at ha'
        subst ha'
        obtain ⟨ta, tc, e2⟩ := slice_of_row t2
        rw [e2] at t2
        rw [e2, t0, t1, t3, t4, t5, t6, t7, t8, t9, t10, t11, t34, t35, t36, t37, t38, t39, t40, t41, t42, t43, t44, t45, t46, t47, t48, t49]
        have HRow := Lib.hid t2
        have HW := Lib.hid hW
        clear hus t2 e2 t0 t1 t3 t4 t5 t6 t7 t8 t9 t10 t11 t34 t35 t36 t37 t38 t39 t40 t41 t42 t43 t44 t45 t46 t47 t48 t49 el hf' hs' hd' hW
        obtain ⟨rl, hrl⟩ : ∃ rl, rl = t.length := ⟨_, rfl⟩
        rw [← hrl] at HRow ⊢
        have K1W := Lib.hid (K1.out.keep HW.out)
        have K2W := Lib.hid (K2.out.same fun k hk => HW.out.block k (K2.out.lt hk))
        have c3 : W.cell? ⟨l, 3, none⟩ = some (.slice va ls.length vc) := by rw [K1W.out.cell]; rfl
        have hx := Blk.new W 27 #[.slice ta rl tc]
        have hb1 : Below W.heap.size W (W.alloc (.cells #[.slice ta rl tc] 27)) := (Below.refl _ _).alloc (Nat.le_refl _) _
        have happ := (K2W.out.same fun k hk => hb1.block k (K2W.out.lt hk)).add (u := .slice ta rl tc) (by simp [Value.oneCell']) W.heap.size hx (by have := KLen.out; have := HI.out; have := HLim.out; omega)
        have HApp := Lib.hid happ
        have HB1 := Lib.hid hb1
        have hblk : ∀ w6, OnlyS (fun k => (Value.slice va ls.length vc).ownBlock = some k) (W.alloc (.cells #[.slice ta rl tc] 27)) w6 → Blk w6 l 108 (logC d q f (.slice va ls.length vc) false) := fun w6 h6 => by
          have h1 := K1W.out.keep hb1
          unfold Blk
          rw [h6.block l h1.lt fun h => list_ne_log K2.out K1.out h rfl]
          exact h1
        have HBlk := Lib.hid hblk
        clear hx hb1 happ hrl hblk
        go_wp2_with (at_builtin; refine wpList_append_by rfl _ _ 33 rfl _ _ rfl rfl _ HApp.out ?_; rintro v' w6 ⟨ha1, ha2, ha3, -⟩; (have hb6 := HBlk.out w6 ha2); (have c63 : w6.cell? ⟨l, 3, none⟩ = some (.slice va ls.length vc) := by rw [hb6.cell]; rfl); (have f63 : w6.frozen? ⟨l, 3, none⟩ = false := hb6.frozen 3); (have HB6 := Lib.hid hb6); (obtain ⟨pa, pc, rfl, -⟩ := ha1.form); (have HA1 := Lib.hid ha1); (have HA2 := Lib.hid ha2); (have HA3 := Lib.hid ha3); clear ha1 ha2 ha3 hb6)
        have hnew : PNx wr (more w S wr) d l c q s f (R.take i ++ [t]) false (w6.setCell ⟨l, 3, none⟩ (.slice pa (ls ++ [Value.slice ta rl tc]).length pc)) := by
          refine pnx_added (us := ls) KS.out KT.out KU.out KTU.out K1.out K2.out K3.out K4.out K5.out K6.out K7.out KL.out.lt (by rw [List.length_take]; have := HIl.out; have := HLim.out; omega) (Next.refl KD.out) ?_ ⟨_, HA1.out, ?_, fun k hk => ?_⟩
          · exact ((OnlyS.of_below (S := fun k => (Value.slice va ls.length vc).ownBlock = some k) HW.out fun k hk _ => hk).trans (OnlyS.of_below HB1.out fun k hk _ => hk)).trans HA2.out
          · refine ownRow_same (HRow.out.below HB1.out) fun k hk => HA2.out.block k (World.ownsRow.lt (HRow.out.below HB1.out) k hk).2 fun hv => ?_
            have h1 := (World.ownsRow.lt HRow.out k hk).1
            have h2 := K2.out.lt hv
            omega
          · rcases HA3.out k hk with h | h
            · exact .inl h
            · have h1 := HW.out.size
              have h2 := HB1.out.size
              exact .inr (by omega)
        have htk : R.take i ++ [t] = R.take (i + 1) := by
          obtain ⟨h1, h2⟩ := List.getElem?_eq_some_iff.1 HIt.out
          rw [List.take_succ_eq_append_getElem h1, h2]
        rw [htk] at hnew
        have hnext : LoadAt w S d l c q s f R (i + 1) (w6.setCell ⟨l, 3, none⟩ (.slice pa (ls ++ [Value.slice ta rl tc]).length pc)) := by
          refine ⟨HIl.out, fun i' t' h1 h2 => ?_, PNx.trans HS.out HPi.out hnew⟩
          by_cases e : i' = i
          · subst e
            rw [HIt.out] at h2
            cases h2
            rw [← HE0.out]
            exact HR.out
          · exact HRd.out i' t' (by omega) h2
        have hl2 : listLen (w6.setCell ⟨l, 3, none⟩ (.slice pa (ls ++ [Value.slice ta rl tc]).length pc)) l = i + 1 := by
          unfold listLen
          rw [(Blk.set HB6.out 3 (.slice pa (ls ++ [Value.slice ta rl tc]).length pc)).cell]
          simp [KLen.out]
        have el1 : (ls ++ [Value.slice ta rl tc]).length = ls.length + 1 := by simp
        rw [el1] at hnext hl2
        have HNext := Lib.hid hnext
        have HL2 := Lib.hid hl2
        clear hnew htk hnext hl2 el1
        go_roundw
        case rel => exact ⟨_, _, _, _, _, _, _, _, _, _, _, _, _, _, _, _, _, _, _, _, _, _, _, _, ⟨i + 1, HNext.out⟩, rfl⟩
        case measure =>
          rw [HL2.out, HGt.out]
          have := HIl.out
          omega
end Go.Proofs.YthaggdkfaglgaaaGreatDoor

/- A log's name; a log is opened. -/
namespace Go.Proofs.YthaggdkfaglgaaaGreatDoor
set_option maxRecDepth 20000
open Go.RowKit Go.Maps DiskMath WalMath FrameMath Reg

def lowC (c : UInt8) : Bool := 97 ≤ c.toNat && c.toNat ≤ 122
def wnB (q : Nm) : Bool := 1 ≤ q.length && q.length ≤ 4 && q.all lowC

theorem wnB_wn (q : Nm) : wnB q = true ↔ wn q := by
  unfold wnB wn
  simp only [Bool.and_eq_true, decide_eq_true_eq, List.all_eq_true, lowC]
  constructor
  · rintro ⟨⟨h1, h2⟩, h3⟩
    exact ⟨h1, h2, h3⟩
  · rintro ⟨h1, h2, h3⟩
    exact ⟨⟨h1, h2⟩, h3⟩

set_option maxHeartbeats 1000000 in
theorem wisName_any (n : Nm) (w : World) (hn : n.length ≤ 9223372036854775807) : Calls Tryz.prog 55 #[nm n] w fun e w' => e = .returned (.bool (wnB n)) ∧ w = w' := by
  obtain ⟨S, hS⟩ : ∃ S : ByteArray, nm n = .string S := ⟨_, rfl⟩
  have hsz : S.size = n.length := by
    unfold nm at hS
    cases hS
    show n.toArray.size = _
    simp
  have hget : ∀ (i : Nat) (h : i < S.size) (h' : i < n.length), (S[i]'h).toNat = (n[i]'h').toNat := fun i h h' => by
    unfold nm at hS
    cases hS
    rfl
  rw [hS]
  by_cases h1 : n.length < 1
  · have hr : wnB n = false := by unfold wnB; simp; omega
    have b1 : decide ((n.length : Int) < 1) = true := by simp; omega
    rw [hr]
    go_enter Tryz.func55, Tryz.ntmps55
    go_wp2
    all_goals first | (go_ret; exact ⟨rfl, rfl⟩) | skip
  by_cases h2 : 4 < n.length
  · have hr : wnB n = false := by unfold wnB; simp; omega
    have b1 : decide ((n.length : Int) < 1) = false := by simp; omega
    have b2 : decide (4 < (n.length : Int)) = true := by simp; omega
    rw [hr]
    go_enter Tryz.func55, Tryz.ntmps55
    go_wp2
    all_goals first | (go_ret; exact ⟨rfl, rfl⟩) | skip
  have b1 : decide ((n.length : Int) < 1) = false := by simp; omega
  have b2 : decide (4 < (n.length : Int)) = false := by simp; omega
  obtain ⟨L, hL⟩ : ∃ L, L = n.length := ⟨_, rfl⟩
  rw [← hL] at b1 b2 hsz h1 h2
  have HL := Lib.hid hL
  clear hL hn
  go_enter Tryz.func55, Tryz.ntmps55
  go_wp2
  go_loop [14] (fun s14 => ∃ i : Nat, i ≤ L ∧ s14 = .int .i64 i ∧ (n.take i).all lowC = true) (fun s14 => L - (intOf s14).toNat)
  case atStart => exact ⟨0, Nat.zero_le _, rfl, rfl⟩
  case round =>
    obtain ⟨i, hi, rfl, hall⟩ := hrel
    have HAll := Lib.hid hall
    clear hall b1 b2
    by_cases hlt : i < L
    · have i0 : (0 : Int) ≤ (i : Int) := Int.natCast_nonneg _
      have i1 : (i : Int) < (L : Int) := by omega
      have hin : i < n.length := by have := HL.out; omega
      have hbad : lowC n[i] = false → wnB n = false := fun h => by
        unfold wnB
        rw [Bool.and_eq_false_iff]
        right
        rw [List.all_eq_false]
        exact ⟨n[i], List.getElem_mem _, by rw [h]; simp⟩
      have hgood : lowC n[i] = true → (n.take (i + 1)).all lowC = true := fun h => by
        rw [List.take_succ_eq_append_getElem hin, List.all_append, HAll.out]
        simp [h]
      have HBad := Lib.hid hbad
      have HGood := Lib.hid hgood
      have HG := Lib.hid (hget i (by omega) hin)
      clear hbad hgood
      go_wp2
      all_goals try
        (refine ⟨⟨i + 1, by omega, by go_num, HGood.out ?_⟩, by simp [intOf]; omega⟩
         have h := HG.out
         unfold lowC
         simp only [Bool.and_eq_true, decide_eq_true_eq] at *
         omega)
      all_goals
        refine bodyPost_ret (v := .bool false) (by simp [results, Tryz.results55, go_sem]) rfl ⟨?_, rfl⟩
        have h := HG.out
        rw [HBad.out (by unfold lowC; simp only [Bool.and_eq_false_iff, decide_eq_false_iff_not] at *; omega)]
    · obtain rfl : i = L := by omega
      have hr : wnB n = true := by
        have h := HAll.out
        rw [List.take_of_length_le (by have := HL.out; omega)] at h
        have := HL.out
        unfold wnB
        rw [h]
        simp
        omega
      have HR := Lib.hid hr
      clear hr hget
      go_wp2
      exact bodyPost_ret (v := .bool true) (by simp [results, Tryz.results55, go_sem]) rfl ⟨by rw [HR.out], rfl⟩

theorem Open_arg {q : Nm} (hq : wnB q = false) (hl : q.length ≤ 9223372036854775807) (p : Option Addr) (w : World) :
    Calls Tryz.prog 25 #[.pointer p, nm q] w fun e w' => e = .returned (.tuple #[.pointer none, .int .i64 1]) ∧ w' = w := by
  have h := wisName_any q w hl
  rw [hq] at h
  have H := Lib.hid h
  clear h hq hl
  go_enter Tryz.func25, Tryz.ntmps25
  go_wp2_with fail
  refine H.out.mono ?_
  rintro e w' ⟨rfl, rfl⟩
  go_wp2
  go_ret2
  exact ⟨rfl, rfl⟩

/-- How Open ends, where the files are a log's. -/
def OpenEnd (w : World) (T : Nat → Prop) (d c : Nat) (q : Nm) (s : St) (f : Nat) (R : List (List UInt8)) (e : Ending) (w' : World) : Prop :=
  ∃ j l c', j ≤ R.length ∧ (∀ i t, i < j → R[i]? = some t → readF s.now q (f + i) = some t) ∧ readF s.now q (f + j) = none ∧ c' ≤ c + 200 ∧
    (((openA q s f j).1 = 0 ∧ e = .returned (.tuple #[.pointer (some ⟨l, 0, none⟩), .int .i64 0]) ∧ PNx w T d l c' q (openA q s f j).2 f (R.take j) false w') ∨
     ((openA q s f j).1 ≠ 0 ∧ e = .returned (.tuple #[.pointer none, .int .i64 (said (openA q s f j).1 : Int)]) ∧ Next w T d c' (openA q s f j).2 w'))

theorem said_zero {c : Nat} : said c = 0 ↔ c = 0 := by
  unfold said
  split
  · simp_all
  · split
    · simp_all
    · simp_all

set_option maxHeartbeats 1000000 in
theorem Open_any {w : World} {T : Nat → Prop} {d c : Nat} {q : Nm} {s : St} {f lo : Nat} {R : List (List UInt8)} (hq : wnB q = true) (h : IsDisk w T d c s) (hc : c + 200 ≤ 2000) (hoff : s.off = false) (hm : May q s.now f R lo) (ht : Tab w) (hT0 : ¬ T 0) (he : Err w) (hT2 : ¬ T 2) :
    Calls Tryz.prog 25 #[dp d, nm q] w (OpenEnd w T d c q s f R) := by
  have hwn := (wnB_wn q).1 hq
  have h1 := wisName_any q w (by have := hwn.2.1; omega)
  rw [hq] at h1
  have H1 := Lib.hid h1
  have H := Lib.hid h
  have HTab := Lib.hid ht
  have HErr := Lib.hid he
  have hmf : ∀ (fn : Fn) (first cap : Array Value) (w : World), (Instr.makeFunc fn first cap).run Tryz.prog w = .ok (.func fn first cap) w := fun _ _ _ _ => rfl
  have hwork : ∀ (l : Nat) (w1 : World) (S : Nat → Prop), Pr w1 S d l c q s 0 [] false → Tab w1 → ¬ S 0 → Err w1 → ¬ S 2 → Calls Tryz.prog 56 #[.pointer (some ⟨l, 0, none⟩)] w1 (LoadEnd w1 S d l c q s f R) :=
    fun l w1 S h1 h2 h3 h4 h5 => load_any hwn.2.1 h1 hc hoff hm h2 h3 h4 h5
  have HWork := Lib.hid hwork
  have HT0 := Lib.hid hT0
  have HT2 := Lib.hid hT2
  obtain ⟨QN, hQN⟩ : ∃ QN : ByteArray, QN = ⟨q.toArray⟩ := ⟨_, rfl⟩
  have eQ : nm q = .string QN := by rw [hQN]; rfl
  have HEQ := Lib.hid eQ
  rw [eQ] at H1 ⊢
  clear h1 hq hwn h hc hoff hm ht hT0 he hT2 hwork hQN eQ
  go_enter Tryz.func25, Tryz.ntmps25
  go_wp2_with fail
  refine H1.out.mono ?_
  rintro e w' ⟨rfl, rfl⟩
  go_wp2_with fail
  have hb0 : Below w.heap.size w (w.alloc (.cells #[dp d, .string QN, .int .u64 0, .slice none 0 0, .bool false] 108)) := (Below.refl _ _).alloc (Nat.le_refl _) _
  have hk0 := Blk.new w 108 #[dp d, .string QN, .int .u64 0, .slice none 0 0, .bool false]
  obtain ⟨w0, hw0⟩ : ∃ w0, w0 = w.alloc (.cells #[dp d, .string QN, .int .u64 0, .slice none 0 0, .bool false] 108) := ⟨_, rfl⟩
  rw [← hw0] at hb0 hk0 ⊢
  have hs0 : w0.heap.size = w.heap.size + 1 := by rw [hw0]; simp
  obtain ⟨l, hl⟩ : ∃ l, l = w.heap.size := ⟨_, rfl⟩
  rw [← hl] at hk0 ⊢
  have hTlt := H.out.lt
  have hPr : Pr w0 (fun k => T k ∨ k = l) d l c q s 0 [] false := by
    refine ⟨⟨T, fun k => k = l, H.out.below hb0, ⟨⟨.slice none 0 0, [], ?_, .inl ⟨rfl, rfl⟩, rfl, fun i u t hu => by simp at hu, rfl, fun k hk => by simp [Value.ownBlock] at hk, fun u hu => by cases hu⟩, fun k hk => by omega, by simp⟩, fun k hk => .inl hk, fun k hk => .inr hk, fun k hk e => by have := hTlt k hk; omega⟩, fun k hk => ?_⟩
    · show Blk w0 l _ #[dp d, nm q, _, _, _]
      rw [HEQ.out]
      exact hk0
    · rcases hk with hk | hk
      · have := hTlt k hk; omega
      · omega
  have hS : ∀ k, (T k ∨ k = l) → k < w0.heap.size := hPr.lt
  have h0l : ¬ (T 0 ∨ 0 = l) := fun h => by
    have h1 := World.block_lt_of_cell? w _ (HTab.out 0 (by decide))
    simp only at h1
    rcases h with h | h
    · exact HT0.out h
    · omega
  have h2l : ¬ (T 2 ∨ 2 = l) := fun h => by
    obtain ⟨te, pe, hce⟩ := HErr.out
    have h1 := World.block_lt_of_cell? w _ hce
    simp only at h1
    rcases h with h | h
    · exact HT2.out h
    · omega
  have HB0 := Lib.hid hb0
  have HPr := Lib.hid hPr
  have HS := Lib.hid hS
  have HTlt := Lib.hid hTlt
  have HLl : Hid (l = w.heap.size ∧ w0.heap.size = l + 1) := by
    show l = w.heap.size ∧ w0.heap.size = l + 1
    omega
  refine (wattempt_any 56 #[.pointer (some ⟨l, 0, none⟩)] #[] (fun args w => by kernel_rfl) l w0 (hS l (.inr rfl))
    (fun c0 w2 => ∃ j, j ≤ R.length ∧ (∀ i t, i < j → R[i]? = some t → readF s.now q (f + i) = some t) ∧ readF s.now q (f + j) = none ∧ c0 = (openA q s f j).1 ∧ ∃ w1, Below w0.heap.size w0 w1 ∧ w1.heap.size = w0.heap.size + 1 ∧ ∃ c', c' ≤ c + 200 ∧ PNx w1 (fun k => T k ∨ k = l) d l c' q (openA q s f j).2 f (R.take j) false w2) (fun w1 hb1 hs1 => ?_)).mono ?_
  · refine (HWork.out l w1 _ (HPr.out.below hb1) ((HTab.out.below (Nat.le_refl _) HB0.out).below (Nat.le_refl _) hb1) h0l ((HErr.out.below HB0.out).below hb1) h2l).mono ?_
    rintro e w2 ⟨j, j1, j2, j3, hm, c', hc', hp⟩
    obtain ⟨c0, k1, ⟨k2, k3⟩, k4⟩ := works_of HS.out hb1 hs1 hm hp
    exact ⟨c0, k1, ⟨j, j1, j2, j3, k2, w1, hb1, hs1, c', hc', hp⟩, k4⟩
  · clear hb0 hk0 hw0 hs0 hl hTlt hPr hS h0l h2l
    rintro e w2 ⟨c0, w3, ⟨j, j1, j2, j3, k1, w1, hb1, hs1, c', hc', hp⟩, k2⟩
    obtain ⟨rfl, hp⟩ := tried_next HS.out ⟨c0, w3, ⟨k1, w1, hb1, hs1, hp⟩, k2⟩
    obtain ⟨x, hx⟩ : ∃ x, x = (openA q s f j).1 := ⟨_, rfl⟩
    have hok : x = 0 → OpenEnd w T d c q s f R (.returned (.tuple #[.pointer (some ⟨l, 0, none⟩), .int .i64 0])) w2 := fun h0 => by
      refine ⟨j, l, c', j1, j2, j3, hc', .inl ⟨by rw [← hx]; exact h0, rfl, ?_⟩⟩
      have e1 : (decide ((openA q s f j).1 ≠ 0) && decide ((openA q s f j).1 ≠ 7)) = false := by rw [← hx, h0]; rfl
      rw [e1] at hp
      have hsz := hp.only.size
      refine ⟨hp.pr.wide (fun k hk => ?_) fun k hk => ?_, ?_⟩
      · have := HLl.out
        rcases hk with (hk | hk) | hk
        · exact .inl hk
        · exact .inr ⟨by omega, by omega⟩
        · exact .inr ⟨by omega, hk.2⟩
      · rcases hk with hk | hk
        · have := HTlt.out k hk; have := HLl.out; omega
        · exact hk.2
      · exact (OnlyS.of_below (S := T) HB0.out fun k hk _ => hk).then hp.only fun k hk hs => by
          rcases hs with hs | hs
          · exact hs
          · have := HLl.out; omega
    have hno : x ≠ 0 → OpenEnd w T d c q s f R (.returned (.tuple #[.pointer none, .int .i64 (said x : Int)])) w2 := fun h0 => by
      refine ⟨j, l, c', j1, j2, j3, hc', .inr ⟨by rw [← hx]; exact h0, by rw [hx], ?_⟩⟩
      obtain ⟨T2, U2, p1, p2, p3, p4, p5⟩ := hp.pr.ex
      have hsz := hp.only.size
      refine ⟨p1.wide (fun k hk => ?_) fun k hk => ?_, ?_⟩
      · have := HLl.out
        rcases p3 k hk with (hk | hk) | hk
        · exact .inl hk
        · exact .inr ⟨by omega, by omega⟩
        · exact .inr ⟨by omega, hk.2⟩
      · rcases hk with hk | hk
        · have := HTlt.out k hk; have := HLl.out; omega
        · exact hk.2
      · exact (OnlyS.of_below (S := T) HB0.out fun k hk _ => hk).then hp.only fun k hk hs => by
          rcases hs with hs | hs
          · exact hs
          · have := HLl.out; omega
    have HOk := Lib.hid hok
    have HNo := Lib.hid hno
    rw [← hx]
    clear hok hno hp k1 k2 hb1 hs1 hc' j1 j2 j3 hx
    by_cases hx0 : x = 0
    · have hfin := HOk.out hx0
      have HFin := Lib.hid hfin
      subst hx0
      have e0 : ((said 0 : Nat) : Int) = 0 := rfl
      rw [e0]
      clear hfin e0
      go_wp2
      go_ret2
      exact HFin.out
    · have hfin := HNo.out hx0
      have HFin := Lib.hid hfin
      obtain ⟨y, hy⟩ : ∃ y : Int, y = (said x : Int) := ⟨_, rfl⟩
      have i1 : (y == 0) = false := by
        rw [Bool.eq_false_iff, ne_eq, beq_iff_eq, hy]
        intro h
        exact hx0 (said_zero.1 (by omega))
      rw [← hy] at HFin ⊢
      clear hfin hy hx0
      go_wp2
      go_ret2
      exact HFin.out
end Go.Proofs.YthaggdkfaglgaaaGreatDoor

/- Get. -/
namespace Go.Proofs.YthaggdkfaglgaaaGreatDoor
set_option maxRecDepth 20000
open Go.RowKit Go.Maps DiskMath WalMath FrameMath Reg

theorem ask_index {P : Program} {ops : Array Oper} {tab : List (List Nat)} {fin : List Tmp} {K : World → Prop} {f : Tmp → Fact} {i : Nat} {o : Oper} (hg : guardOk ops f o) (ty : TypeId) (s t : Operand) (v x c : Value) (ho : o.op = .indexAddr ty s t) (hs : opFact f s = .is v) (ht : opFact f t = .is x)
    (hd : ∀ k, o.dst = some k → f k = .is c) (hr : ∀ W, (Instr.indexAt ty v x).run P W = .ok c W) : Asked P ops tab fin K f i o := by
  refine ask_val hg c hd fun y W _ hk => ?_
  have e1 := evalBy_opVal hk s (by rw [ho]; simp [Op.operands]) hs
  have e2 := evalBy_opVal hk t (by rw [ho]; simp [Op.operands]) ht
  simp only [execOp, ho, e1, e2, Sem.run_bind, hr W, Result.andThen_ok, Sem.run_pure]

theorem texts_index (W : World) (g o n cap i : Nat) (hi : i < n) : (Instr.indexAt 33 (.slice (some ⟨g, o, none⟩) n cap) (.int .u64 (i : Int))).run Tryz.prog W = .ok (.pointer (some ⟨g, o + i, none⟩)) W := by
  have ht : Tryz.prog.underlying 33 = some (.slice (Tryz.prog.elem 33)) := by rw [elem_txs]; exact Tryz.underlying33
  rw [run_indexAt_slice (h := ht), if_pos (by omega), elem_txs, size_txt]
  simp [Result.andThen, addr_add]

theorem Pr.list {w : World} {S : Nat → Prop} {d l c : Nat} {q : Nm} {s : St} {f : Nat} {R : List (List UInt8)} {over : Bool} (h : Pr w S d l c q s f R over) {i : Nat} {t : List UInt8} (hi : R[i]? = some t) :
    ∃ g o c' a' c2, Blk w l 108 (logC d q f (.slice (some ⟨g, o, none⟩) R.length c') over) ∧ w.cell? ⟨g, o + i, none⟩ = some (.slice a' t.length c2) ∧ Row w 0 (.slice a' t.length c2) t ∧ f + R.length ≤ 99 := by
  obtain ⟨T, U, hd, hl, hT, hU, hTU⟩ := h.ex
  obtain ⟨v, us, l1, l2, l3, l4, _⟩ := hl.ex
  have hlt := (List.getElem?_eq_some_iff.1 hi).1
  obtain ⟨u, hu⟩ : ∃ u, us[i]? = some u := ⟨us[i]'(by omega), List.getElem?_eq_getElem _⟩
  obtain ⟨g, o, c', rfl, hc⟩ := l2.at_ hu
  have hr := l4 i u t hu hi
  obtain ⟨a', c2, rfl⟩ := slice_of_row hr
  rw [l3] at l1
  exact ⟨g, o, c', a', c2, l1, hc, hr, hl.lim⟩

set_option maxHeartbeats 1000000 in
theorem wGet_none {w : World} {S : Nat → Prop} {d l c : Nat} {q : Nm} {s : St} {f : Nat} {R : List (List UInt8)} {over : Bool} (h : Pr w S d l c q s f R over) (m : Nat) (hm : m < f ∨ f + R.length ≤ m) :
    Calls Tryz.prog 26 #[.pointer (some ⟨l, 0, none⟩), .int .u64 m] w fun e w' => e = .returned (.tuple #[.slice none 0 0, .int .i64 9]) ∧ Below w.heap.size w w' := by
  obtain ⟨a, c', hb, -, hlim⟩ := h.log
  have H1 := Lib.hid (wfirst_any hb)
  have H2 := Lib.hid (wnext_any hb (by omega))
  obtain ⟨n, hn⟩ : ∃ n, n = f + R.length := ⟨_, rfl⟩
  rw [← hn] at H2 hm
  clear h hb hlim hn
  by_cases h1 : m < f
  · have i1 : decide ((m : Int) < (f : Int)) = true := by simpa using h1
    have i2 : decide (m < f) = true := by simpa using h1
    clear hm
    go_enter Tryz.func26, Tryz.ntmps26
    go_wp2_with fail
    refine H1.out.mono ?_
    rintro e w' ⟨rfl, rfl⟩
    go_wp2
    go_ret2
    exact ⟨rfl, Below.refl _ _⟩
  · have h2 : n ≤ m := by omega
    have i1 : decide ((m : Int) < (f : Int)) = false := by simpa using h1
    have i2 : decide (m < f) = false := by simpa using h1
    have i3 : decide ((n : Int) ≤ (m : Int)) = true := by simpa using h2
    have i4 : decide (n ≤ m) = true := by simpa using h2
    clear hm
    go_enter Tryz.func26, Tryz.ntmps26
    go_wp2_with fail
    refine H1.out.mono ?_
    rintro e w' ⟨rfl, rfl⟩
    go_wp2_with fail
    refine H2.out.mono ?_
    rintro e w2 ⟨rfl, k, rfl⟩
    go_wp2
    go_ret2
    exact ⟨rfl, below_dn (Below.refl _ _) k⟩

set_option maxHeartbeats 1000000 in
theorem wGet_some {w : World} {S : Nat → Prop} {d l c : Nat} {q : Nm} {s : St} {f : Nat} {R : List (List UInt8)} {over : Bool} (h : Pr w S d l c q s f R over) (i : Nat) (t : List UInt8) (hi : R[i]? = some t) (ht : t.length ≤ 16384) :
    Calls Tryz.prog 26 #[.pointer (some ⟨l, 0, none⟩), .int .u64 ((f + i : Nat) : Int)] w fun e w' => ∃ v, e = .returned (.tuple #[v, .int .i64 0]) ∧ Row w' w.heap.size v t ∧ Below w.heap.size w w' := by
  obtain ⟨g, o, c', a', c2, hb, hc, hr, hlim⟩ := h.list hi
  have hlt := (List.getElem?_eq_some_iff.1 hi).1
  have H1 := Lib.hid (wfirst_any hb)
  have H2 := Lib.hid (wnext_any hb (by omega))
  have HB := Lib.hid hb
  have HCell := Lib.hid hc
  have HRow := Lib.hid hr
  have HT := Lib.hid ht
  obtain ⟨n, hn⟩ : ∃ n, n = f + R.length := ⟨_, rfl⟩
  obtain ⟨m, hm⟩ : ∃ m, m = f + i := ⟨_, rfl⟩
  rw [← hn] at H2
  rw [← hm]
  have h1 : ¬ m < f := by omega
  have h2 : ¬ n ≤ m := by omega
  have i1 : decide ((m : Int) < (f : Int)) = false := by simpa using h1
  have i2 : decide (m < f) = false := by simpa using h1
  have i3 : decide ((n : Int) ≤ (m : Int)) = false := by simpa using h2
  have i4 : decide (n ≤ m) = false := by simpa using h2
  obtain ⟨L, hL⟩ : ∃ L, L = R.length := ⟨_, rfl⟩
  rw [← hL] at HB hlt
  have hsub : ∀ (t : TypeId) (a b : Operand) (W : World), (do eqGuard .sub t a b (.int .u64 (m : Int)) (.int .u64 (f : Int)); binOp .sub t (.int .u64 (m : Int)) (.int .u64 (f : Int)) : Sem Value).run Tryz.prog W = .ok (.int .u64 (i : Int)) W := fun t a b W => sub_u64 _ _ _ _ _ _ (by rw [hm]; exact u64_diff f i (by omega)) W
  have HSub := Lib.hid hsub
  have HIx := Lib.hid (fun W => texts_index W g o L c' i hlt)
  clear h hb hlim hn hm hi hlt hc hr ht hL hsub h1 h2
  go_enter Tryz.func26, Tryz.ntmps26
  go_wp2_with fail
  refine H1.out.mono ?_
  rintro e w' ⟨rfl, rfl⟩
  go_wp2_with fail
  refine H2.out.mono ?_
  rintro e w2 ⟨rfl, k, rfl⟩
  have HBk := Lib.hid (below_dn (Below.refl w'.heap.size w') k)
  obtain ⟨wk, hwk⟩ : ∃ wk, wk = w'.drewN k := ⟨_, rfl⟩
  have HB2 : Hid (Blk wk l 108 (logC d q f (.slice (some ⟨g, o, none⟩) L c') over)) := by rw [hwk]; exact HB.out
  have HC2 : Hid (wk.cell? ⟨g, o + i, none⟩ = some (.slice a' t.length c2)) := by rw [hwk]; exact HCell.out
  have HR2 : Hid (Row wk 0 (.slice a' t.length c2) t) := by rw [hwk]; exact HRow.out
  have HSz : Hid (wk.heap.size = w'.heap.size) := by rw [hwk]; rfl
  rw [← hwk] at HBk ⊢
  clear hwk HB HCell HRow H1 H2
  go_upto_region 3 with fail
  have hG : ∀ W W' : World, Below wk.heap.size wk W → Below W.heap.size W W' → Below wk.heap.size wk W' := fun W W' h h' => h.trans (h'.mono h.size)
  clear i1 i2 i3 i4
  refine region_by [(16, .is (.pointer (some ⟨l, 0, none⟩))), (17, .is (.pointer (some ⟨l, 0, none⟩))), (18, .is (.pointer (some ⟨l, 3, none⟩))), (19, .is (.slice (some ⟨g, o, none⟩) L c')), (20, .is (.int .u64 (m : Int))), (21, .is (.pointer (some ⟨l, 0, none⟩))), (22, .is (.pointer (some ⟨l, 0, none⟩))), (23, .is (.pointer (some ⟨l, 2, none⟩))), (24, .is (.int .u64 (f : Int))), (25, .is (.int .u64 (i : Int))), (26, .is (.pointer (some ⟨g, o + i, none⟩))), (27, .is (.slice a' t.length c2)), (28, .row wk.heap.size t), (4, .row wk.heap.size t), (5, .is (.int .i64 0))] [5, 4] (fun W => Below wk.heap.size wk W) (by kernel_rfl) (by kernel_rfl) (by kernel_rfl) (by kernel_rfl) (by kernel_rfl) ((Below.refl _ _).drew) ?_ ?_
  · refine ⟨?c0, ?c1, ?c2, ?c3, ?c4, ?c5, ?c6, ?c7, ?c8, ?c9, ?c10, ?c11, ?c12, ?c13, ?c14, trivial⟩
    case c0 => exact ask_copy (guard_none rfl) (.tmp 0) (.inl rfl) (by intro k hk; cases hk; rfl)
    case c1 => exact ask_exec (guard_none rfl) (.pointer (some ⟨l, 0, none⟩)) rfl rfl (by intro k hk; cases hk; rfl) (fun W hW => by kernel_rfl)
    case c2 => exact ask_field (guard_none rfl) _ (.tmp 17) 2 (.pointer (some ⟨l, 0, none⟩)) (.pointer (some ⟨l, 3, none⟩)) rfl rfl (by intro k hk; cases hk; rfl) (fun W => by kernel_rfl)
    case c3 => exact ask_load (guard_none rfl) _ (.tmp 18) (.pointer (some ⟨l, 3, none⟩)) (.slice (some ⟨g, o, none⟩) L c') rfl rfl (by intro k hk; cases hk; rfl) (fun W hW => load_ls W _ _ (by rw [hW.cell (p := ⟨l, 3, none⟩) HB2.out.lt, HB2.out.cell]; rfl))
    case c4 => exact ask_copy (guard_none rfl) (.tmp 1) (.inl rfl) (by intro k hk; cases hk; rfl)
    case c5 => exact ask_copy (guard_none rfl) (.tmp 0) (.inl rfl) (by intro k hk; cases hk; rfl)
    case c6 => exact ask_exec (guard_none rfl) (.pointer (some ⟨l, 0, none⟩)) rfl rfl (by intro k hk; cases hk; rfl) (fun W hW => by kernel_rfl)
    case c7 => exact ask_field (guard_none rfl) _ (.tmp 22) 1 (.pointer (some ⟨l, 0, none⟩)) (.pointer (some ⟨l, 2, none⟩)) rfl rfl (by intro k hk; cases hk; rfl) (fun W => by kernel_rfl)
    case c8 => exact ask_load (guard_none rfl) _ (.tmp 23) (.pointer (some ⟨l, 2, none⟩)) (.int .u64 (f : Int)) rfl rfl (by intro k hk; cases hk; rfl) (fun W hW => load_u64 W _ _ (by rw [hW.cell (p := ⟨l, 2, none⟩) HB2.out.lt, HB2.out.cell]; rfl))
    case c9 => exact ask_bin (guard_none rfl) .sub _ _ (.tmp 20) (.tmp 24) (.int .u64 (m : Int)) (.int .u64 (f : Int)) (.int .u64 (i : Int)) rfl rfl rfl (by intro k hk; cases hk; rfl) (fun W => HSub.out _ _ _ W)
    case c10 => exact ask_index (guard_none rfl) _ (.tmp 19) (.tmp 25) (.slice (some ⟨g, o, none⟩) L c') (.int .u64 (i : Int)) (.pointer (some ⟨g, o + i, none⟩)) rfl rfl rfl (by intro k hk; cases hk; rfl) HIx.out
    case c11 => exact ask_load (guard_none rfl) _ (.tmp 26) (.pointer (some ⟨g, o + i, none⟩)) (.slice a' t.length c2) rfl rfl (by intro k hk; cases hk; rfl) (fun W hW => load_bs W _ _ (by rw [hW.cell (p := ⟨g, o + i, none⟩) (World.block_lt_of_cell? wk _ HC2.out)]; exact HC2.out))
    case c12 => exact ask_call hG (guard_none rfl) _ _ _ #[.slice a' t.length c2] (.row wk.heap.size t) rfl (by kernel_rfl) rfl rfl (by intro k hk; cases hk; rfl) (fun W hW => (clone_any a' t.length c2 t W ((HR2.out.below hW).bys) (by have := HT.out; omega)).mono fun e w' h => by obtain ⟨v', h1, h2, h3⟩ := h; exact ⟨v', h1, row_lower h2 hW.size, h3⟩)
    case c13 => exact ask_copy (guard_none rfl) (.tmp 28) (.inr rfl) (by intro k hk; cases hk; rfl)
    case c14 => exact ask_copy (guard_none rfl) (.const (.int .i64 0)) (.inr rfl) (by intro k hk; cases hk; rfl)
  · intro af W hW hd' hs' hf'
    have t5 : af.tmps.getD 5 undef = .int .i64 0 := hf' 5 rfl
    have t4 : Row W wk.heap.size (af.tmps.getD 4 undef) t := hf' 4 rfl
    obtain ⟨us, hus, haf⟩ := act_open 29 af hs' hd'
    rw [← hus] at t5 t4
    have el : ((List.range 29).map us).toArray = #[us 0, us 1, us 2, us 3, us 4, us 5, us 6, us 7, us 8, us 9, us 10, us 11, us 12, us 13, us 14, us 15, us 16, us 17, us 18, us 19, us 20, us 21, us 22, us 23, us 24, us 25, us 26, us 27, us 28] := rfl
    rw [el] at haf
    subst haf
    rw [t5]
    have HR4 := Lib.hid t4
    have HW := Lib.hid hW
    clear hus t5 t4 el hf' hs' hd' hW
    go_wp2
    go_ret2
    exact ⟨_, rfl, by rw [← HSz.out]; exact HR4.out, HBk.out.trans (HW.out.mono (Nat.le_of_eq HSz.out.symm))⟩
end Go.Proofs.YthaggdkfaglgaaaGreatDoor

/- The reference's log in memory: Next, Get, Took, Lost, Fits. -/
namespace Go.Proofs.YthaggdkfaglgaaaGreatDoor
set_option maxRecDepth 20000
open Go.RowKit Go.Maps DiskMath WalMath FrameMath Reg

/-- The reference's log. -/
structure WS where
  first : Nat
  recs : List (List UInt8)
  sure : Nat
  over : Bool
  least : Nat
  may : Nat

abbrev refC (W : WS) (v : Value) : Array Value := #[.int .u64 (W.first : Int), v, .int .i64 (W.sure : Int), .bool W.over, .int .i64 (W.least : Int), .int .u64 (W.may : Int)]

/-- What holds of it. -/
structure Wok (W : WS) : Prop where
  lim : W.first + W.recs.length ≤ 99
  sure : W.sure ≤ 99
  least : W.least ≤ 99
  may : W.may ≤ 99
  long : ∀ t ∈ W.recs, t.length ≤ 16384

/-- It in memory, its blocks among X. -/
structure RL (w : World) (X : Nat → Prop) (x : Nat) (W : WS) : Prop where
  ex : ∃ (v : Value) (us : List Value), Blk w x 35 (refC W v) ∧ ListO w v us ∧ us.length = W.recs.length ∧ (∀ (i : Nat) (u : Value) (t : List UInt8), us[i]? = some u → W.recs[i]? = some t → Row w 0 u t) ∧ X x ∧ (∀ k, v.ownBlock = some k → X k) ∧ (∀ u ∈ us, ∀ k, u.ownBlock = some k → X k)
  lt : ∀ k, X k → k < w.heap.size
  ok : Wok W

theorem RL.same {w w' : World} {X : Nat → Prop} {x : Nat} {W : WS} (h : RL w X x W) (hs : ∀ k, X k → w'.heap[k]? = w.heap[k]?) (hl : w.heap.size ≤ w'.heap.size) : RL w' X x W := by
  obtain ⟨v, us, h1, h2, h3, h4, h5, h6, h7⟩ := h.ex
  refine ⟨⟨v, us, ?_, h2.same fun k hk => hs k (h6 k hk), h3, fun i u t hu ht => ownRow_same (h4 i u t hu ht) fun k hk => hs k (h7 u (List.mem_of_getElem? hu) k hk), h5, h6, h7⟩, fun k hk => Nat.lt_of_lt_of_le (h.lt k hk) hl, h.ok⟩
  unfold Blk
  rw [hs x h5]
  exact h1

theorem RL.below {w w' : World} {X : Nat → Prop} {x : Nat} {W : WS} (h : RL w X x W) (hb : Below w.heap.size w w') : RL w' X x W := h.same (fun k hk => hb.block k (h.lt k hk)) hb.size

/-- Only the log's own cells are written; the list is of what was there. -/
theorem RL.set {w w' : World} {X : Nat → Prop} {x : Nat} {W W2 : WS} {v v2 : Value} {us2 : List Value} (hX : ∀ k, X k → k < w.heap.size) (hb : Blk w x 35 (refC W v)) (hlo2 : ListO w v2 us2) (hlen : us2.length = W2.recs.length) (hrow : ∀ (i : Nat) (u : Value) (t : List UInt8), us2[i]? = some u → W2.recs[i]? = some t → Row w 0 u t)
    (hx : X x) (hv : ∀ k, v2.ownBlock = some k → X k) (hu : ∀ u ∈ us2, ∀ k, u.ownBlock = some k → X k) (hok : Wok W2) (ho : OnlyS (fun k => k = x) w w') (hb' : Blk w' x 35 (refC W2 v2)) : RL w' X x W2 := by
  have hvx : ∀ k, v2.ownBlock = some k → k ≠ x := fun k hk e => by
    rcases hlo2 with ⟨rfl, _⟩ | ⟨g, o, cap, cur, rfl, hg, _⟩
    · simp [Value.ownBlock] at hk
    · simp [Value.ownBlock] at hk
      subst hk
      subst e
      unfold Blk at hb
      rw [hg] at hb
      simp at hb
  refine ⟨⟨v2, us2, hb', hlo2.same fun k hk => ho.block k (hlo2.lt hk) (hvx k hk), hlen, fun i u t h1 h2 => ownRow_same (hrow i u t h1 h2) fun k hk => ho.block k ?_ fun e => ?_, hx, hv, hu⟩, fun k hk => Nat.lt_of_lt_of_le (hX k hk) ho.size, hok⟩
  · exact (World.ownsRow.lt (hrow i u t h1 h2) k hk).2
  · exact row_ne_blk (hrow i u t h1 h2) hb (by decide) (by rw [hk, e])

theorem rNext_any {w : World} {X : Nat → Prop} {x : Nat} {W : WS} (h : RL w X x W) :
    Calls Tryz.prog 24 #[.pointer (some ⟨x, 0, none⟩)] w fun e w' => e = .returned (.int .u64 ((W.first + W.recs.length : Nat) : Int)) ∧ ∃ m, w' = w.drewN m := by
  obtain ⟨v, us, h1, h2, h3, -⟩ := h.ex
  obtain ⟨a, c, rfl, -⟩ := h2.form
  have hlim := h.ok.lim
  rw [h3] at h1
  have c0 : w.cell? ⟨x, 0, none⟩ = some (.int .u64 (W.first : Int)) := by rw [h1.cell]; rfl
  have c1 : w.cell? ⟨x, 1, none⟩ = some (.slice a W.recs.length c) := by rw [h1.cell]; rfl
  obtain ⟨n, hn⟩ : ∃ n, n = W.recs.length := ⟨_, rfl⟩
  obtain ⟨f, hf⟩ : ∃ f, f = W.first := ⟨_, rfl⟩
  rw [← hn, ← hf] at hlim ⊢
  rw [← hn] at c1
  rw [← hf] at c0
  have e1 : IntKind.u64.wrap (n : Int) = (n : Int) := u64_small n (by omega)
  obtain ⟨m, hm⟩ : ∃ m, m = f + n := ⟨_, rfl⟩
  have e2 : IntKind.u64.wrap ((f : Int) + (n : Int)) = (m : Int) := by rw [hm]; exact u64_small (f + n) (by omega)
  rw [← hm]
  clear h h1 h2 h3 hn hf hm hlim
  go_enter Tryz.func24, Tryz.ntmps24
  go_wp2
  go_quiet (fail)
  go_wp2
  go_ret
  exact ⟨rfl, _, rfl⟩

theorem rTook_any {w : World} {X : Nat → Prop} {x : Nat} {W : WS} (h : RL w X x W) :
    Calls Tryz.prog 20 #[.pointer (some ⟨x, 0, none⟩)] w fun e w' => e = .returned (.tuple #[]) ∧ RL w' X x { W with sure := W.recs.length, least := W.recs.length, may := W.first } ∧ OnlyS (fun k => k = x) w w' := by
  have hX := h.lt
  have hok := h.ok
  obtain ⟨v, us, h1, h2, h3, h4, h5, h6, h7⟩ := h.ex
  obtain ⟨a, c, rfl, -⟩ := h2.form
  have c0 : w.cell? ⟨x, 0, none⟩ = some (.int .u64 (W.first : Int)) := by rw [h1.cell]; rfl
  have c1 : w.cell? ⟨x, 1, none⟩ = some (.slice a us.length c) := by rw [h1.cell]; rfl
  have c2 : w.cell? ⟨x, 2, none⟩ = some (.int .i64 (W.sure : Int)) := by rw [h1.cell]; rfl
  have c4 : w.cell? ⟨x, 4, none⟩ = some (.int .i64 (W.least : Int)) := by rw [h1.cell]; rfl
  have c5 : w.cell? ⟨x, 5, none⟩ = some (.int .u64 (W.may : Int)) := by rw [h1.cell]; rfl
  have f2 : w.frozen? ⟨x, 2, none⟩ = false := h1.frozen 2
  have f4 : w.frozen? ⟨x, 4, none⟩ = false := h1.frozen 4
  have f5 : w.frozen? ⟨x, 5, none⟩ = false := h1.frozen 5
  have hfin : RL (((w.setCell ⟨x, 2, none⟩ (.int .i64 (us.length : Int))).setCell ⟨x, 4, none⟩ (.int .i64 (us.length : Int))).setCell ⟨x, 5, none⟩ (.int .u64 (W.first : Int))) X x { W with sure := W.recs.length, least := W.recs.length, may := W.first } ∧ OnlyS (fun k => k = x) w (((w.setCell ⟨x, 2, none⟩ (.int .i64 (us.length : Int))).setCell ⟨x, 4, none⟩ (.int .i64 (us.length : Int))).setCell ⟨x, 5, none⟩ (.int .u64 (W.first : Int))) := by
    have ho : OnlyS (fun k => k = x) w (((w.setCell ⟨x, 2, none⟩ (.int .i64 (us.length : Int))).setCell ⟨x, 4, none⟩ (.int .i64 (us.length : Int))).setCell ⟨x, 5, none⟩ (.int .u64 (W.first : Int))) :=
      (((OnlyS.refl (fun k => k = x) w).setCell (p := ⟨x, 2, none⟩) (fun _ => rfl) _).setCell (p := ⟨x, 4, none⟩) (fun _ => rfl) _).setCell (p := ⟨x, 5, none⟩) (fun _ => rfl) _
    refine ⟨RL.set hX h1 h2 h3 h4 h5 h6 h7 ⟨hok.lim, by have := hok.lim; simp only; omega, by have := hok.lim; simp only; omega, by have := hok.lim; simp only; omega, hok.long⟩ ho ?_, ho⟩
    have hb := Blk.set (Blk.set (Blk.set h1 2 (.int .i64 (us.length : Int))) 4 (.int .i64 (us.length : Int))) 5 (.int .u64 (W.first : Int))
    rw [h3] at hb ⊢
    exact hb
  have HFin := Lib.hid hfin
  clear h h1 h2 h3 h4 h5 h6 h7 hX hok hfin
  go_enter Tryz.func20, Tryz.ntmps20
  go_wp2
  go_end0
  exact ⟨rfl, HFin.out⟩

theorem rLost_any {w : World} {X : Nat → Prop} {x : Nat} {W : WS} (h : RL w X x W) (least may : Nat) (h1' : least ≤ 99) (h2' : may ≤ 99) :
    Calls Tryz.prog 21 #[.pointer (some ⟨x, 0, none⟩), .int .i64 (least : Int), .int .u64 (may : Int)] w fun e w' => e = .returned (.tuple #[]) ∧ RL w' X x { W with over := true, least := least, may := may } ∧ OnlyS (fun k => k = x) w w' := by
  have hX := h.lt
  have hok := h.ok
  obtain ⟨v, us, h1, h2, h3, h4, h5, h6, h7⟩ := h.ex
  have c3 : w.cell? ⟨x, 3, none⟩ = some (.bool W.over) := by rw [h1.cell]; rfl
  have c4 : w.cell? ⟨x, 4, none⟩ = some (.int .i64 (W.least : Int)) := by rw [h1.cell]; rfl
  have c5 : w.cell? ⟨x, 5, none⟩ = some (.int .u64 (W.may : Int)) := by rw [h1.cell]; rfl
  have f3 : w.frozen? ⟨x, 3, none⟩ = false := h1.frozen 3
  have f4 : w.frozen? ⟨x, 4, none⟩ = false := h1.frozen 4
  have f5 : w.frozen? ⟨x, 5, none⟩ = false := h1.frozen 5
  have hfin : RL (((w.setCell ⟨x, 3, none⟩ (.bool true)).setCell ⟨x, 4, none⟩ (.int .i64 (least : Int))).setCell ⟨x, 5, none⟩ (.int .u64 (may : Int))) X x { W with over := true, least := least, may := may } ∧ OnlyS (fun k => k = x) w (((w.setCell ⟨x, 3, none⟩ (.bool true)).setCell ⟨x, 4, none⟩ (.int .i64 (least : Int))).setCell ⟨x, 5, none⟩ (.int .u64 (may : Int))) := by
    have ho : OnlyS (fun k => k = x) w (((w.setCell ⟨x, 3, none⟩ (.bool true)).setCell ⟨x, 4, none⟩ (.int .i64 (least : Int))).setCell ⟨x, 5, none⟩ (.int .u64 (may : Int))) :=
      (((OnlyS.refl (fun k => k = x) w).setCell (p := ⟨x, 3, none⟩) (fun _ => rfl) _).setCell (p := ⟨x, 4, none⟩) (fun _ => rfl) _).setCell (p := ⟨x, 5, none⟩) (fun _ => rfl) _
    refine ⟨RL.set hX h1 h2 h3 h4 h5 h6 h7 ⟨hok.lim, hok.sure, h1', h2', hok.long⟩ ho ?_, ho⟩
    exact Blk.set (Blk.set (Blk.set h1 3 (.bool true)) 4 (.int .i64 (least : Int))) 5 (.int .u64 (may : Int))
  have HFin := Lib.hid hfin
  clear h h1 h2 h3 h4 h5 h6 h7 hX hok hfin h1' h2'
  go_enter Tryz.func21, Tryz.ntmps21
  go_wp2
  go_end0
  exact ⟨rfl, HFin.out⟩
end Go.Proofs.YthaggdkfaglgaaaGreatDoor

