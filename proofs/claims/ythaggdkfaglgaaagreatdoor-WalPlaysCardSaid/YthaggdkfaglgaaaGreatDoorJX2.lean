/- Joined: WalRun, WalBegin, WalOpenRun, WalOpenRun2, WalAt, WalTri. -/
import Derived.Test.YthaggdkfaglgaaaGreatDoorJX1
import Derived.Test.YthaggdkfaglgaaaGreatDoorJW5
/- A run in memory: its disk, its log, what the log must be. -/
namespace Go.Proofs.YthaggdkfaglgaaaGreatDoor
set_option maxRecDepth 20000
open Go.RowKit Go.Maps DiskMath WalMath FrameMath Reg

/-- The run's disk, and what its log must be; the log's own cell is not told. -/
structure RunD (w : World) (Z : Nat → Prop) (B : Nat) (s : St) (V : WS) : Prop where
  ex : ∃ d lv x c T X, c ≤ 700 ∧ Blk w B 40 #[dp d, lv, .pointer (some ⟨x, 0, none⟩)] ∧ IsDisk w T d c s ∧ RL w X x V ∧ (∀ k, T k → Z k) ∧ (∀ k, X k → Z k) ∧ (∀ k, T k → ¬ X k) ∧ ¬ T B ∧ ¬ X B ∧ Z B
  lt : ∀ k, Z k → k < w.heap.size

/-- The run, its log told. -/
structure Run (w : World) (Z : Nat → Prop) (B : Nat) (s : St) (f : Nat) (R : List (List UInt8)) (over : Bool) (V : WS) : Prop where
  ex : ∃ d l x c S X, c ≤ 700 ∧ Blk w B 40 (runC d l x) ∧ Pr w S d l c qL s f R over ∧ RL w X x V ∧ (∀ k, S k → Z k) ∧ (∀ k, X k → Z k) ∧ (∀ k, S k → ¬ X k) ∧ ¬ S B ∧ ¬ X B ∧ Z B
  lt : ∀ k, Z k → k < w.heap.size

theorem Run.disk {w : World} {Z : Nat → Prop} {B : Nat} {s : St} {f : Nat} {R : List (List UInt8)} {over : Bool} {V : WS} (h : Run w Z B s f R over V) : RunD w Z B s V := by
  obtain ⟨d, l, x, c, S, X, hc, hb, hp, hr, h1, h2, h3, h4, h5, h6⟩ := h.ex
  obtain ⟨T, U, k1, k2, k3, k4, k5⟩ := hp.ex
  exact ⟨⟨d, _, x, c, T, X, hc, hb, k1, hr, fun k hk => h1 k (k3 k hk), h2, fun k hk => h3 k (k3 k hk), fun hk => h4 (k3 B hk), h5, h6⟩, h.lt⟩

theorem Run.below {w w' : World} {Z : Nat → Prop} {B : Nat} {s : St} {f : Nat} {R : List (List UInt8)} {over : Bool} {V : WS} (h : Run w Z B s f R over V) (hb' : Below w.heap.size w w') : Run w' Z B s f R over V := by
  obtain ⟨d, l, x, c, S, X, hc, hb, hp, hr, h1⟩ := h.ex
  exact ⟨⟨d, l, x, c, S, X, hc, hb.keep hb', hp.below hb', hr.below hb', h1⟩, fun k hk => Nat.lt_of_lt_of_le (h.lt k hk) hb'.size⟩

theorem RunD.below {w w' : World} {Z : Nat → Prop} {B : Nat} {s : St} {V : WS} (h : RunD w Z B s V) (hb' : Below w.heap.size w w') : RunD w' Z B s V := by
  obtain ⟨d, l, x, c, S, X, hc, hb, hp, hr, h1⟩ := h.ex
  exact ⟨⟨d, l, x, c, S, X, hc, hb.keep hb', hp.below hb', hr.below hb', h1⟩, fun k hk => Nat.lt_of_lt_of_le (h.lt k hk) hb'.size⟩

theorem Run.wide {w : World} {Z Z' : Nat → Prop} {B : Nat} {s : St} {f : Nat} {R : List (List UInt8)} {over : Bool} {V : WS} (h : Run w Z B s f R over V) (hZ : ∀ k, Z k → Z' k) (hlt : ∀ k, Z' k → k < w.heap.size) : Run w Z' B s f R over V := by
  obtain ⟨d, l, x, c, S, X, hc, hb, hp, hr, h1, h2, h3, h4, h5, h6⟩ := h.ex
  exact ⟨⟨d, l, x, c, S, X, hc, hb, hp, hr, fun k hk => hZ k (h1 k hk), fun k hk => hZ k (h2 k hk), h3, h4, h5, hZ B h6⟩, hlt⟩

theorem RunD.wide {w : World} {Z Z' : Nat → Prop} {B : Nat} {s : St} {V : WS} (h : RunD w Z B s V) (hZ : ∀ k, Z k → Z' k) (hlt : ∀ k, Z' k → k < w.heap.size) : RunD w Z' B s V := by
  obtain ⟨d, l, x, c, S, X, hc, hb, hp, hr, h1, h2, h3, h4, h5, h6⟩ := h.ex
  exact ⟨⟨d, l, x, c, S, X, hc, hb, hp, hr, fun k hk => hZ k (h1 k hk), fun k hk => hZ k (h2 k hk), h3, h4, h5, hZ B h6⟩, hlt⟩

/-- The disk of a run that is known: where nothing waits, what is there is sure. -/
theorem RunD.sure {w : World} {Z : Nat → Prop} {B : Nat} {s : St} {V : WS} (h : RunD w Z B s V) (hops : s.ops = []) : s.sure = s.now := by
  obtain ⟨d, l, x, c, T, X, hc, hb, hp, _⟩ := h.ex
  obtain ⟨m1, m2, F1, F2, ws, G, hd, _⟩ := hp.ex
  have e := hd.ok.now
  rw [hops] at e
  exact e.symm

/-- What a call on the disk leaves of a run. -/
theorem RunD.next {w w' : World} {Z : Nat → Prop} {B d x c c' : Nat} {lv : Value} {T X : Nat → Prop} {s s' : St} {V : WS} (hlt : ∀ k, Z k → k < w.heap.size) (hb : Blk w B 40 #[dp d, lv, .pointer (some ⟨x, 0, none⟩)]) (hr : RL w X x V) (h1 : ∀ k, T k → Z k) (h2 : ∀ k, X k → Z k) (h3 : ∀ k, T k → ¬ X k) (h4 : ¬ T B) (h5 : ¬ X B) (h6 : Z B)
    (hn : Next w T d c' s' w') (hc : c' ≤ 700) : RunD w' (more w Z w') B s' V ∧ OnlyS Z w w' := by
  have hsz := hn.only.size
  have _ := c
  have _ := s
  refine ⟨⟨⟨d, lv, x, c', more w T w', X, hc, ?_, hn.disk, hr.same (fun k hk => hn.only.block k (hr.lt k hk) fun ht => h3 k ht hk) hsz, fun k hk => ?_, fun k hk => .inl (h2 k hk), fun k hk hx => ?_, fun hk => ?_, h5, .inl h6⟩, fun k hk => ?_⟩, hn.only.mono fun k _ hk => h1 k hk⟩
  · unfold Blk
    rw [hn.only.block B hb.lt h4]
    exact hb
  · rcases hk with hk | hk
    · exact .inl (h1 k hk)
    · exact .inr hk
  · rcases hk with hk | hk
    · exact h3 k hk hx
    · have := hr.lt k hx; omega
  · rcases hk with hk | hk
    · exact h4 hk
    · have := hb.lt; omega
  · rcases hk with hk | hk
    · have := hlt k hk; omega
    · exact hk.2
end Go.Proofs.YthaggdkfaglgaaaGreatDoor

/- A run begins. -/
namespace Go.Proofs.YthaggdkfaglgaaaGreatDoor
set_option maxRecDepth 20000
open Go.RowKit Go.Maps DiskMath WalMath FrameMath Reg

/-- The reference's log at the beginning. -/
def noW : WS := { first := 0, recs := [], sure := 0, over := false, least := 0, may := 0 }
theorem noW_ok : Wok noW := ⟨by decide, by decide, by decide, by decide, fun t ht => by cases ht⟩
theorem noW_took : tookW noW 0 0 = noW := rfl

theorem begin_idle : (openA qL (St.new 1073741824) 0 0).1 = 0 ∧ Idle (openA qL (St.new 1073741824) 0 0).2 noW 0 ∧ Calm (openA qL (St.new 1073741824) 0 0).2 := by
  have hc : Calm (St.new 1073741824) := ⟨rfl, rfl⟩
  have h1 := good_open (s := St.new 1073741824) (V := noW) (N := 0) (k := 0) (j := 0) rfl rfl rfl (Nat.le_refl _) (.inl rfl) (Nat.le_refl _) (may_nil qL) (Nat.le_refl _) (fun i t hi => absurd hi (Nat.not_lt_zero i)) rfl
  have h2 := calm_open (q := qL) hc 0 0
  obtain ⟨-, -, h3 | h3⟩ := h1
  · exact absurd h3.1 h2.1
  · exact ⟨h3.1, h3.2.1, h2.2⟩

set_option maxHeartbeats 1000000 in
theorem begin_any {w : World} (ht : Tab w) (he : Err w) : Calls Tryz.prog 13 #[] w fun e w' => ∃ B s, e = .returned (.pointer (some ⟨B, 0, none⟩)) ∧ Run w' (fun k => w.heap.size ≤ k ∧ k < w'.heap.size) B s 0 [] false noW ∧ Idle s noW 0 ∧ Calm s ∧ Below w.heap.size w w' := by
  have h0 := tab_pos ht
  have h2 := err_lt he
  have HTab := Lib.hid ht
  have HErr := Lib.hid he
  have H0 := Lib.hid h0
  have H2 := Lib.hid h2
  clear ht he h0 h2
  go_enter Tryz.func13, Tryz.ntmps13
  go_wp2_with fail
  refine (new_any w 1073741824).mono ?_
  rintro e w1 ⟨d, rfl, hd, hb1⟩
  have HB1 := Lib.hid hb1
  have HD := Lib.hid hd
  clear hb1 hd
  go_wp2_with fail
  obtain ⟨w3, hw3⟩ : ∃ w3, w3 = (w1.alloc (.cells (refC noW (.slice none 0 0)) 35)).alloc (.cells #[dp d, .pointer none, .pointer (some ⟨w1.heap.size, 0, none⟩)] 40) := ⟨_, rfl⟩
  have hb3 : Below w1.heap.size w1 w3 := by rw [hw3]; exact ((Below.refl _ w1).alloc (Nat.le_refl _) _).alloc (by simp) _
  have hs3 : w3.heap.size = w1.heap.size + 2 := by rw [hw3]; simp
  have hx3 : Blk w3 w1.heap.size 35 (refC noW (.slice none 0 0)) := by
    rw [hw3]
    unfold Blk
    rw [Below.heap_alloc _ _ _ (by simp)]
    exact heap_alloc_new w1 _
  have hB3 : Blk w3 (w1.heap.size + 1) 40 #[dp d, .pointer none, .pointer (some ⟨w1.heap.size, 0, none⟩)] := by
    rw [hw3]
    have := Blk.new (w1.alloc (.cells (refC noW (.slice none 0 0)) 35)) 40 #[dp d, .pointer none, .pointer (some ⟨w1.heap.size, 0, none⟩)]
    simpa using this
  have e3 : w3 = (w1.alloc (.cells #[.int .u64 0, .slice none 0 0, .int .i64 0, .bool false, .int .i64 0, .int .u64 0] 35)).alloc (.cells #[dp d, .pointer none, .pointer (some ⟨w1.heap.size, 0, none⟩)] 40) := hw3
  rw [← e3]
  have c0 : w3.cell? ⟨w1.heap.size + 1, 0, none⟩ = some (dp d) := by rw [hB3.cell]; rfl
  have HB3 := Lib.hid hB3
  have HX3 := Lib.hid hx3
  have HS3 := Lib.hid hs3
  have HBw3 := Lib.hid hb3
  have hop := Open_any (q := qL) (f := 0) (lo := 0) (R := []) qL_wnB (HD.out.below hb3) (by omega) rfl (may_nil qL) ((HTab.out.below (Nat.le_refl _) HB1.out).below (Nat.le_refl _) hb3) (fun h => by have := H0.out; omega) ((HErr.out.below HB1.out).below hb3) (fun h => by have := H2.out; have := h.1; omega)
  have HOp := Lib.hid hop
  clear hw3 e3 hb3 hs3 hx3 hB3 hop
  go_wp2_with fail
  refine HOp.out.mono ?_
  rintro e w4 ⟨j, l, c1, hj, -, -, hc1, h⟩
  obtain rfl : j = 0 := by simpa using hj
  obtain ⟨b1, b2, b3⟩ := begin_idle
  obtain ⟨-, rfl, hp⟩ := h.resolve_right (fun hh => hh.1 b1)
  have hsz := hp.only.size
  have hTB : ¬ (w.heap.size ≤ w1.heap.size + 1 ∧ w1.heap.size + 1 < w1.heap.size) := fun h => by omega
  have hTx : ¬ (w.heap.size ≤ w1.heap.size ∧ w1.heap.size < w1.heap.size) := fun h => by omega
  have hB4 : Blk w4 (w1.heap.size + 1) 40 #[dp d, .pointer none, .pointer (some ⟨w1.heap.size, 0, none⟩)] := by
    unfold Blk
    rw [hp.only.block _ HB3.out.lt hTB]
    exact HB3.out
  have hx4 : Blk w4 w1.heap.size 35 (refC noW (.slice none 0 0)) := by
    unfold Blk
    rw [hp.only.block _ HX3.out.lt hTx]
    exact HX3.out
  have hfin : Run (w4.setCell ⟨w1.heap.size + 1, 1, none⟩ (.pointer (some ⟨l, 0, none⟩))) (fun k => w.heap.size ≤ k ∧ k < (w4.setCell ⟨w1.heap.size + 1, 1, none⟩ (.pointer (some ⟨l, 0, none⟩))).heap.size) (w1.heap.size + 1) (openA qL (St.new 1073741824) 0 0).2 0 [] false noW ∧ Below w.heap.size w (w4.setCell ⟨w1.heap.size + 1, 1, none⟩ (.pointer (some ⟨l, 0, none⟩))) := by
    have h3 := HS3.out
    have hle := HB1.out.size
    have hs5 : (w4.setCell ⟨w1.heap.size + 1, 1, none⟩ (.pointer (some ⟨l, 0, none⟩))).heap.size = w4.heap.size := by simp [World.setCell]
    have hne : ∀ k, k ≠ w1.heap.size + 1 → (w4.setCell ⟨w1.heap.size + 1, 1, none⟩ (.pointer (some ⟨l, 0, none⟩))).heap[k]? = w4.heap[k]? := fun k hk => heap_set_other hk _
    have hpr : Pr (w4.setCell ⟨w1.heap.size + 1, 1, none⟩ (.pointer (some ⟨l, 0, none⟩))) (more w3 (fun k => w.heap.size ≤ k ∧ k < w1.heap.size) w4) d l c1 qL (openA qL (St.new 1073741824) 0 0).2 0 [] false := hp.pr.same (fun k hk => hne k fun e => by
      subst e
      rcases hk with hk | hk
      · omega
      · omega) (by rw [hs5]; exact Nat.le_refl _)
    refine ⟨⟨⟨d, l, w1.heap.size, c1, _, fun k => k = w1.heap.size, by omega, Blk.set hB4 1 _, hpr, ⟨⟨.slice none 0 0, [], ?_, .inl ⟨rfl, rfl⟩, rfl, fun i u t hu => by simp at hu, rfl, fun k hk => by simp [Value.ownBlock] at hk, fun u hu => by cases hu⟩, fun k hk => by subst hk; rw [hs5]; omega, noW_ok⟩, fun k hk => ?_, fun k hk => ?_, fun k hk hk2 => ?_, fun hk => ?_, fun hk => by omega, ?_⟩, fun k hk => hk.2⟩, ?_⟩
    · unfold Blk
      rw [hne _ (by omega)]
      exact hx4
    · rw [hs5]
      rcases hk with hk | hk
      · exact ⟨hk.1, by omega⟩
      · exact ⟨by omega, hk.2⟩
    · subst hk
      rw [hs5]
      exact ⟨hle, by omega⟩
    · subst hk2
      rcases hk with hk | hk
      · omega
      · omega
    · rcases hk with hk | hk
      · omega
      · omega
    · rw [hs5]
      exact ⟨by omega, by omega⟩
    · have h5 : Below w.heap.size w w4 := (HB1.out.trans (HBw3.out.mono HB1.out.size)).trans (hp.only.below (fun k hk h => by omega) (by omega))
      exact h5.setCell (by show w.heap.size ≤ w1.heap.size + 1; omega) _
  have HFin := Lib.hid hfin
  have c1' : w4.cell? ⟨w1.heap.size + 1, 1, none⟩ = some (.pointer none) := by rw [hB4.cell]; rfl
  have f1 : w4.frozen? ⟨w1.heap.size + 1, 1, none⟩ = false := hB4.frozen 1
  have HI := Lib.hid b2
  have HC := Lib.hid b3
  clear h hp hsz hTB hTx hB4 hx4 hfin b1 b2 b3 hj HOp c0 hc1
  go_wp2
  go_ret
  exact ⟨_, _, rfl, HFin.out.1, HI.out, HC.out, HFin.out.2⟩
end Go.Proofs.YthaggdkfaglgaaaGreatDoor

/- The log is opened anew, as often as it takes. -/
namespace Go.Proofs.YthaggdkfaglgaaaGreatDoor
set_option maxRecDepth 20000
open Go.RowKit Go.Maps DiskMath WalMath FrameMath Reg

/-- What open leaves. -/
def Opened (w : World) (Z : Nat → Prop) (B : Nat) (s : St) (V : WS) (N : Nat) (e : Ending) (w' : World) : Prop :=
  e = .returned (.bool true) ∧ ∃ s' a b, (a = 0 ∨ V.may = V.first + a) ∧ a ≤ b ∧ b ≤ V.recs.length ∧ floorW V ≤ b ∧ Run w' (more w Z w') B s' (tookW V a b).first (tookW V a b).recs false (tookW V a b) ∧ Idle s' (tookW V a b) N ∧ s'.ops = [] ∧ OnlyS Z w w' ∧ (Calm s → Calm s')

/-- Where open stands ahead of a try. -/
structure OpenAt (w : World) (Z : Nat → Prop) (B : Nat) (s0 : St) (V : WS) (i : Nat) (s : St) (wr : World) : Prop where
  few : i ≤ 1
  run : RunD wr (more w Z wr) B s V
  only : OnlyS Z w wr
  off : s.off = false
  ops : s.ops = []
  good : Good V s.now
  second : i = 1 → Calm s
  calm : Calm s0 → Calm s

theorem more_more {w w1 w2 : World} {Z : Nat → Prop} (h1 : w.heap.size ≤ w1.heap.size) (h2 : w1.heap.size ≤ w2.heap.size) : ∀ k, more w1 (more w Z w1) w2 k → more w Z w2 k := fun k hk => by
  rcases hk with (hk | hk) | hk
  · exact .inl hk
  · exact .inr ⟨hk.1, by omega⟩
  · exact .inr ⟨by omega, hk.2⟩

theorem more_lt {w w1 : World} {Z : Nat → Prop} (hlt : ∀ k, Z k → k < w.heap.size) (h1 : w.heap.size ≤ w1.heap.size) : ∀ k, more w Z w1 k → k < w1.heap.size := fun k hk => by
  rcases hk with hk | hk
  · have := hlt k hk; omega
  · exact hk.2

theorem only_more {w w1 w2 : World} {Z : Nat → Prop} (h1 : OnlyS Z w w1) (h2 : OnlyS (more w Z w1) w1 w2) : OnlyS Z w w2 := h1.then h2 fun k hk hs => by
  rcases hs with hs | hs
  · exact hs
  · omega

theorem tab_only {w w' : World} {Z : Nat → Prop} (h : Tab w) (ho : OnlyS Z w w') (hZ : ¬ Z 0) : Tab w' := fun j hj => by
  have h1 := h j hj
  rw [← h1]
  unfold World.cell?
  rw [ho.block 0 (World.block_lt_of_cell? w _ h1) hZ]

theorem err_only {w w' : World} {Z : Nat → Prop} (h : Err w) (ho : OnlyS Z w w') (hZ : ¬ Z 2) : Err w' := by
  obtain ⟨te, pe, hce⟩ := h
  refine ⟨te, pe, ?_⟩
  rw [← hce]
  unfold World.cell?
  rw [ho.block _ (World.block_lt_of_cell? w _ hce) hZ]

theorem ne_errno (s t : Operand) (a : Int) (W : World) : (do eqGuard .neq 45 s t (.int .i64 a) (.int .i64 a); binOp .neq 45 (.int .i64 a) (.int .i64 a) : Sem Value).run Tryz.prog W = .ok (.bool false) W := by
  simp [eqGuard, go_sem]

theorem eq_wlnil (s t : Operand) (a : Addr) (W : World) : (do eqGuard .eql 37 s t (.pointer (some a)) (.pointer none); binOp .eql 37 (.pointer (some a)) (.pointer none) : Sem Value).run Tryz.prog W = .ok (.bool false) W := by
  simp [eqGuard, go_sem]

/-- The run behind a log that was opened and taken on. -/
theorem run_taken {w wr w4 w5 w6 : World} {Z T X : Nat → Prop} {B d l x c : Nat} {lv : Value} {s : St} {V : WS} {a b : Nat} (hlt : ∀ k, Z k → k < w.heap.size) (ho : OnlyS Z w wr) (hb : Blk wr B 40 #[dp d, lv, .pointer (some ⟨x, 0, none⟩)]) (h1 : ∀ k, T k → more w Z wr k) (h2 : ∀ k, X k → more w Z wr k) (h3 : ∀ k, T k → ¬ X k) (h4 : ¬ T B) (h5 : ¬ X B) (h6 : more w Z wr B)
    (hX : ∀ k, X k → k < wr.heap.size) (hxX : X x) (hp : PNx wr T d l c qL s (tookW V a b).first (tookW V a b).recs false w4) (hc : c ≤ 700) (h45 : Below w4.heap.size (w4.setCell ⟨B, 1, none⟩ (.pointer (some ⟨l, 0, none⟩))) w5) (hr : RL w6 X x (tookW V a b)) (h56 : OnlyS (fun k => k = x) w5 w6) :
    Blk w6 B 40 (runC d l x) ∧ Pr w6 (more wr T w4) d l c qL s (tookW V a b).first (tookW V a b).recs false ∧ Run w6 (more w Z w6) B s (tookW V a b).first (tookW V a b).recs false (tookW V a b) ∧ OnlyS Z w w6 := by
  have e1 := ho.size
  have e2 := hp.only.size
  have e3 : (w4.setCell ⟨B, 1, none⟩ (.pointer (some ⟨l, 0, none⟩))).heap.size = w4.heap.size := by simp [World.setCell]
  have e4 := h45.size
  have e5 := h56.size
  have hBlt := hb.lt
  have hxlt := hX x hxX
  have hxB : x ≠ B := fun e => h5 (e ▸ hxX)
  have hB4 : Blk w4 B 40 #[dp d, lv, .pointer (some ⟨x, 0, none⟩)] := by
    unfold Blk
    rw [hp.only.block B hBlt h4]
    exact hb
  have hB5 : Blk w5 B 40 (runC d l x) := by
    unfold Blk
    rw [h45.block B (by omega)]
    exact Blk.set hB4 1 _
  have hB6 : Blk w6 B 40 (runC d l x) := by
    unfold Blk
    rw [h56.block B (by omega) fun e => hxB e.symm]
    exact hB5
  have hSx : ∀ k, more wr T w4 k → k ≠ x ∧ k ≠ B := fun k hk => by
    rcases hk with hk | hk
    · exact ⟨fun e => h3 k hk (e ▸ hxX), fun e => h4 (e ▸ hk)⟩
    · omega
  have hp6 : Pr w6 (more wr T w4) d l c qL s (tookW V a b).first (tookW V a b).recs false := hp.pr.same (fun k hk => by
    have h7 := hp.pr.lt k hk
    rw [h56.block k (by omega) (hSx k hk).1, h45.block k h7, heap_set_other (hSx k hk).2]) (by omega)
  refine ⟨hB6, hp6, ⟨⟨d, l, x, c, more wr T w4, X, hc, hB6, hp6, hr, fun k hk => ?_, fun k hk => ?_, fun k hk hx => ?_, fun hk => (hSx B hk).2 rfl, h5, ?_⟩, fun k hk => ?_⟩, ?_⟩
  · rcases hk with hk | hk
    · rcases h1 k hk with h | h
      · exact .inl h
      · exact .inr ⟨h.1, by omega⟩
    · exact .inr ⟨by omega, by omega⟩
  · rcases h2 k hk with h | h
    · exact .inl h
    · exact .inr ⟨h.1, by omega⟩
  · rcases hk with hk | hk
    · exact h3 k hk hx
    · have := hX k hx; omega
  · rcases h6 with h | h
    · exact .inl h
    · exact .inr ⟨h.1, by omega⟩
  · rcases hk with hk | hk
    · have := hlt k hk; omega
    · exact hk.2
  · have o1 : OnlyS Z w w4 := only_more ho (hp.only.mono fun k _ hk => h1 k hk)
    have o2 : OnlyS Z w (w4.setCell ⟨B, 1, none⟩ (.pointer (some ⟨l, 0, none⟩))) := o1.setCell (p := ⟨B, 1, none⟩) (fun hlt2 => by
      rcases h6 with h | h
      · exact h
      · simp only at hlt2; omega) _
    have o3 : OnlyS Z w w5 := o2.then (OnlyS.of_below (S := fun _ => False) h45 fun k hk _ => by omega) fun k _ h => h.elim
    exact o3.then h56 fun k hk e => by
      subst e
      rcases h2 k hxX with h | h
      · exact h
      · omega
end Go.Proofs.YthaggdkfaglgaaaGreatDoor

/- The log is opened anew: the walk. -/
namespace Go.Proofs.YthaggdkfaglgaaaGreatDoor
set_option maxRecDepth 20000
open Go.RowKit Go.Maps DiskMath WalMath FrameMath Reg

theorem below_both {w W : World} (h : Below w.heap.size w W) (p : Addr) (v : Value) : Below w.heap.size (w.setCell p v) (W.setCell p v) :=
  ⟨h.os, h.tape, h.output, by simpa [World.setCell] using h.size, fun k hk => by
    simp only [World.setCell, Array.getElem?_modify]
    rw [h.block k hk]⟩

set_option maxHeartbeats 4000000 in
theorem open_any {w : World} {Z : Nat → Prop} {B : Nat} {s0 : St} {V : WS} {N : Nat} {ka : Option Addr} {nk ck : Nat} {ks : List Bool} {torn : Int} (h : RunD w Z B s0 V) (hoff : s0.off = false) (hops : s0.ops = []) (hg : Good V s0.now) (hN : V.first + V.recs.length ≤ N) (ht : Tab w) (he : Err w) (hZ0 : ¬ Z 0) (hZ2 : ¬ Z 2)
    (hkeep : ∀ W, OnlyS Z w W → Bls W (.slice ka nk ck) ks) (hnk : ks.length = nk) (hnk2 : nk ≤ 9223372036854775807) :
    Calls Tryz.prog 17 #[.pointer (some ⟨B, 0, none⟩), .slice ka nk ck, .int .i64 torn] w (Opened w Z B s0 V N) := by
  have HStart : Hid (OpenAt w Z B s0 V 0 s0 w) := ⟨by decide, h.wide (fun k hk => .inl hk) (more_lt h.lt (Nat.le_refl _)), OnlyS.refl _ _, hoff, hops, hg, fun h => absurd h (by decide), fun h => h⟩
  have HLt := Lib.hid h.lt
  have HTab := Lib.hid ht
  have HErr := Lib.hid he
  have HZ0 := Lib.hid hZ0
  have HZ2 := Lib.hid hZ2
  have HKeep := Lib.hid hkeep
  have HNk := Lib.hid hnk
  have HNk2 := Lib.hid hnk2
  have HN := Lib.hid hN
  clear h hoff hops hg hN ht he hZ0 hZ2 hkeep hnk hnk2
  go_enter Tryz.func17, Tryz.ntmps17
  go_wp2_with fail
  go_loopw [7] (fun s7 wr => ∃ (i : Nat) (s : St), s7 = .int .i64 i ∧ Hid (OpenAt w Z B s0 V i s wr)) (fun s7 _ => 8 - (intOf s7).toNat)
  case atStart => exact ⟨0, s0, rfl, HStart⟩
  case round =>
    obtain ⟨i, s, rfl, HO⟩ := hrel
    have hi1 := HO.out.few
    have i8 : (i : Int) < 8 := by omega
    obtain ⟨d, lv, x, c, T, X, hc, hb, hd, hr, h1, h2, h3, h4, h5, h6⟩ := HO.out.run.ex
    obtain ⟨k, hk0, hk, hm⟩ := HO.out.good
    have hw0 := tab_pos HTab.out
    have hw2 := err_lt HErr.out
    have hopen := Open_any (q := qL) qL_wnB hd (by omega) HO.out.off hm (tab_only HTab.out HO.out.only HZ0.out) (fun h => by
      rcases h1 0 h with h | h
      · exact HZ0.out h
      · omega) (err_only HErr.out HO.out.only HZ2.out) (fun h => by
      rcases h1 _ h with h | h
      · exact HZ2.out h
      · omega)
    have HOpen := Lib.hid hopen
    have HB := Lib.hid hb
    have HD := Lib.hid hd
    have HR := Lib.hid hr
    have H1 := Lib.hid h1
    have H2 := Lib.hid h2
    have H3 := Lib.hid h3
    have H4 := Lib.hid h4
    have H5 := Lib.hid h5
    have H6 := Lib.hid h6
    have HC := Lib.hid hc
    have HK0 := Lib.hid hk0
    have HK := Lib.hid hk
    have HM := Lib.hid hm
    have c0 : wr.cell? ⟨B, 0, none⟩ = some (dp d) := by rw [hb.cell]; rfl
    clear hb hd hr h1 h2 h3 h4 h5 h6 hc hk0 hk hm hw0 hw2 hopen
    go_wp2_with fail
    refine HOpen.out.mono ?_
    rintro e w4 ⟨j, l, c', hj, hread, hlast, hc', hcase⟩
    obtain ⟨g1, g2, hres⟩ := good_open HO.out.off HO.out.ops (HO.out.run.sure HO.out.ops) HN.out HK0.out HK.out HM.out hj hread hlast
    have HG1 := Lib.hid g1
    have HG2 := Lib.hid g2
    have HC2 : Hid (c' ≤ 900) := by show c' ≤ 900; have := HC.out; omega
    clear hj hread hlast g1 g2 hc' c0
    rcases hres with ⟨r6, roff, rgood⟩ | ⟨r0, ridle, rrec, rops⟩
    · obtain ⟨-, rfl, hnx⟩ := hcase.resolve_left (fun hh => by rw [r6] at hh; exact absurd hh.1 (by decide))
      have hi0 : i = 0 := by
        rcases Nat.eq_zero_or_pos i with h | h
        · exact h
        · exact absurd r6 (calm_open (HO.out.second (by omega)) _ _).1
      subst hi0
      have HGood := Lib.hid rgood
      have e6 : ((said (openA qL s (V.first + k) j).1 : Nat) : Int) = 6 := by rw [r6]; rfl
      rw [e6]
      obtain ⟨s1, hs1⟩ : ∃ s1, s1 = (openA qL s (V.first + k) j).2 := ⟨_, rfl⟩
      rw [← hs1] at hnx roff HGood
      have HNx := Lib.hid hnx
      have hB4 : Blk w4 B 40 #[dp d, lv, .pointer (some ⟨x, 0, none⟩)] := by
        unfold Blk
        rw [hnx.only.block B HB.out.lt H4.out]
        exact HB.out
      have c0 : w4.cell? ⟨B, 0, none⟩ = some (dp d) := by rw [hB4.cell]; rfl
      obtain ⟨m1, m2, F1, F2, ws, G, hdk, -⟩ := hnx.disk.ex
      have hdn := down_any hdk
      rw [roff] at hdn
      have HDn := Lib.hid hdn
      have HBls := Lib.hid (HKeep.out w4 (only_more HO.out.only (hnx.only.mono fun k _ hk => H1.out k hk)))
      have HOff := Lib.hid roff
      clear hnx hB4 hdk hdn roff rgood r6 e6 hs1 hcase
      go_wp2_with fail
      refine HDn.out.mono ?_
      rintro e w5 ⟨rfl, rfl⟩
      go_wp2_with fail
      refine (crash_any HNx.out.disk HBls.out HNk.out HNk2.out).mono ?_
      rintro e w6 ⟨rfl, hcr⟩
      have hn2 := Next.trans HNx.out hcr
      obtain ⟨kk, _, _, hmay⟩ := HGood.out ks torn
      have hn3 : Next wr T d 700 (s1.crash ks torn) w6 := ⟨hn2.disk.tight (by
        have h := hmay.few
        show (s1.crash ks torn).sure.length + (s1.crash ks torn).ops.length ≤ 700
        have e1 : (s1.crash ks torn).sure.length = (s1.crash ks torn).now.length := rfl
        have e2 : (s1.crash ks torn).ops.length = 0 := rfl
        omega) (by decide), hn2.only⟩
      obtain ⟨q1, q2⟩ := RunD.next (c := c) (s := s) (more_lt HLt.out HO.out.only.size) HB.out HR.out H1.out H2.out H3.out H4.out H5.out H6.out hn3 (Nat.le_refl _)
      have HNew : Hid (OpenAt w Z B s0 V 1 (s1.crash ks torn) w6) := ⟨Nat.le_refl _, q1.wide (more_more HO.out.only.size q2.size) (more_lt HLt.out (Nat.le_trans HO.out.only.size q2.size)), only_more HO.out.only q2, rfl, rfl, HGood.out ks torn, fun _ => calm_crash _ _ _, fun _ => calm_crash _ _ _⟩
      clear hcr hn2 hmay hn3 q1 q2
      go_wp2
      go_roundw
      case rel => exact ⟨1, _, rfl, HNew⟩
      case measure => simp [intOf]
    · obtain ⟨-, rfl, hpn⟩ := hcase.resolve_right (fun hh => hh.1 r0)
      rw [rrec] at hpn
      obtain ⟨s1, hs1⟩ : ∃ s1, s1 = (openA qL s (V.first + k) j).2 := ⟨_, rfl⟩
      rw [← hs1] at hpn ridle rops
      have hcalm : Calm s0 → Calm s1 := fun h => by rw [hs1]; exact (calm_open (HO.out.calm h) _ _).2
      have HCalm := Lib.hid hcalm
      obtain ⟨T1, hT1⟩ : ∃ V1, V1 = tookW V k (k + j) := ⟨_, rfl⟩
      have eF : V.first + k = T1.first := by rw [hT1]; rfl
      rw [eF] at hpn
      rw [← hT1] at hpn ridle
      have HPn : Hid (PNx wr T d l 700 qL s1 T1.first T1.recs false w4) := ⟨hpn.pr.tight (by have h := ridle.rest.sure.few; rw [rops]; simp only [List.length_nil]; omega) (by decide), hpn.only⟩
      have HIdle := Lib.hid ridle
      have HOps := Lib.hid rops
      have HT1 := Lib.hid hT1
      have hB4 : Blk w4 B 40 #[dp d, lv, .pointer (some ⟨x, 0, none⟩)] := by
        unfold Blk
        rw [HPn.out.only.block B HB.out.lt H4.out]
        exact HB.out
      have hX4 : RL w4 X x V := HR.out.same (fun n hn => HPn.out.only.block n (HR.out.lt n hn) fun ht => H3.out n ht hn) HPn.out.only.size
      have HB4 := Lib.hid hB4
      have HX4 := Lib.hid hX4
      obtain ⟨la, lc, hl, -, hlim⟩ := HPn.out.pr.log
      obtain ⟨fa, hfa⟩ : ∃ fa, fa = V.first + k := ⟨_, rfl⟩
      obtain ⟨fb, hfb⟩ : ∃ fb, fb = V.first + (k + j) := ⟨_, rfl⟩
      have hlen : T1.recs.length = j := by
        rw [hT1]
        simp only [tookW, List.length_drop, List.length_take]
        have := HG2.out
        omega
      have HFirst := Lib.hid (fun (W : World) (hW : Below w4.heap.size w4 W) => show Calls Tryz.prog 29 #[.pointer (some ⟨l, 0, none⟩)] W (fun e w' => ∃ v, e = .returned v ∧ v = .int .u64 (fa : Int) ∧ Below W.heap.size W w') from (wfirst_any (hl.keep hW)).mono fun e w' h => by obtain ⟨h1, rfl⟩ := h; exact ⟨_, h1, by rw [← eF, hfa], Below.refl _ _⟩)
      have HNext := Lib.hid (fun (W : World) (hW : Below w4.heap.size w4 W) => show Calls Tryz.prog 30 #[.pointer (some ⟨l, 0, none⟩)] W (fun e w' => ∃ v, e = .returned v ∧ v = .int .u64 (fb : Int) ∧ Below W.heap.size W w') from (wnext_any (hl.keep hW) (by omega)).mono fun e w' h => by obtain ⟨h1, m, rfl⟩ := h; exact ⟨_, h1, by rw [hfb, ← eF, hlen, Nat.add_assoc], below_dn (Below.refl _ _) m⟩)
      have HFits := Lib.hid (fun (W : World) (hW : Below w4.heap.size w4 W) => show Calls Tryz.prog 50 #[.pointer (some ⟨x, 0, none⟩), .int .u64 (fa : Int), .int .u64 (fb : Int)] W (fun e w' => ∃ v, e = .returned v ∧ v = .bool true ∧ Below W.heap.size W w') from (rFits_true (hX4.below hW) fa fb (by
        rcases HK0.out with h | h
        · left; omega
        · right; omega) (by have := HG1.out; omega) (by omega) (by have := HG2.out; omega)).mono fun e w' h => ⟨_, h.1, rfl, h.2⟩)
      have HFa := Lib.hid hfa
      have HFb := Lib.hid hfb
      have HEF := Lib.hid eF
      have hG : ∀ W W' : World, Below w4.heap.size w4 W → Below W.heap.size W W' → Below w4.heap.size w4 W' := fun W W' h h' => h.trans (h'.mono h.size)
      clear hcase hpn rrec ridle rops hs1 hT1 eF hcalm hB4 hX4 hl hlim hfa hfb hlen r0
      go_upto_region 9 with fail
      refine region_by [(37, .is (.int .i64 0)), (38, .is (.bool false)), (39, .is (.bool false)), (40, .is (.pointer (some ⟨l, 0, none⟩))), (41, .is (.bool false)), (42, .is (.bool false)), (43, .is (.bool false)), (44, .is (.pointer (some ⟨B, 0, none⟩))), (45, .is (.pointer (some ⟨B, 0, none⟩))), (46, .is (.pointer (some ⟨B, 2, none⟩))), (47, .is (.pointer (some ⟨x, 0, none⟩))), (48, .is (.pointer (some ⟨l, 0, none⟩))), (49, .is (.int .u64 (fa : Int))), (50, .is (.pointer (some ⟨l, 0, none⟩))), (51, .is (.int .u64 (fb : Int))), (52, .is (.bool true)), (53, .is (.bool false)), (54, .is (.bool false))] [0, 8, 54] (fun W => Below w4.heap.size w4 W) (by kernel_rfl) (by kernel_rfl) (by kernel_rfl) (by kernel_rfl) (by kernel_rfl) ((Below.refl _ _).drew) ?_ ?_
      · refine ⟨?c0, ?c1, ?c2, ?c3, ?c4, ?c5, ?c6, ?c7, ?c8, ?c9, ?c10, ?c11, ?c12, ?c13, ?c14, ?c15, ?c16, ?c17, trivial⟩
        case c0 => exact ask_copy (guard_none rfl) (.tmp 9) (.inl rfl) (by intro k hk; cases hk; rfl)
        case c1 => exact ask_exec (guard_none rfl) (.bool false) rfl rfl (by intro k hk; cases hk; rfl) (fun W hW => by kernel_rfl)
        case c2 => exact ask_copy (guard_none rfl) (.tmp 38) (.inl rfl) (by intro k hk; cases hk; rfl)
        case c3 => exact ask_copy (guard_some rfl rfl rfl) (.tmp 8) (.inl rfl) (by intro k hk; cases hk; rfl)
        case c4 => exact ask_bin (guard_some rfl rfl rfl) _ _ _ _ _ _ _ _ rfl rfl rfl (by intro k hk; cases hk; rfl) (fun W => eq_wlnil _ _ _ W)
        case c5 => exact ask_pick (guard_none rfl) (.tmp 39) (.const (.bool true)) (.tmp 41) false rfl rfl (by intro k hk; cases hk; rfl)
        case c6 => exact ask_copy (guard_none rfl) (.tmp 42) (.inl rfl) (by intro k hk; cases hk; rfl)
        case c7 => exact ask_copy (guard_some rfl rfl rfl) (.tmp 0) (.inl rfl) (by intro k hk; cases hk; rfl)
        case c8 => exact ask_exec (guard_some rfl rfl rfl) (.pointer (some ⟨B, 0, none⟩)) rfl rfl (by intro k hk; cases hk; rfl) (fun W hW => by kernel_rfl)
        case c9 => exact ask_field (guard_some rfl rfl rfl) _ (.tmp 45) 2 (.pointer (some ⟨B, 0, none⟩)) (.pointer (some ⟨B, 2, none⟩)) rfl rfl (by intro k hk; cases hk; rfl) (fun W => by kernel_rfl)
        case c10 => exact ask_load (guard_some rfl rfl rfl) _ (.tmp 46) (.pointer (some ⟨B, 2, none⟩)) (.pointer (some ⟨x, 0, none⟩)) rfl rfl (by intro k hk; cases hk; rfl) (fun W hW => load_rl W _ _ (by rw [hW.cell (p := ⟨B, 2, none⟩) HB4.out.lt, HB4.out.cell]; rfl))
        case c11 => exact ask_copy (guard_some rfl rfl rfl) (.tmp 8) (.inl rfl) (by intro k hk; cases hk; rfl)
        case c12 => exact ask_call hG (guard_some rfl rfl rfl) _ _ _ #[.pointer (some ⟨l, 0, none⟩)] (.is (.int .u64 (fa : Int))) rfl (by kernel_rfl) rfl rfl (by intro k hk; cases hk; rfl) (fun W hW => (HFirst.out W hW).mono fun e w' h => by obtain ⟨v, h1, h2, h3⟩ := h; exact ⟨v, h1, h2, h3⟩)
        case c13 => exact ask_copy (guard_some rfl rfl rfl) (.tmp 8) (.inl rfl) (by intro k hk; cases hk; rfl)
        case c14 => exact ask_call hG (guard_some rfl rfl rfl) _ _ _ #[.pointer (some ⟨l, 0, none⟩)] (.is (.int .u64 (fb : Int))) rfl (by kernel_rfl) rfl rfl (by intro k hk; cases hk; rfl) (fun W hW => (HNext.out W hW).mono fun e w' h => by obtain ⟨v, h1, h2, h3⟩ := h; exact ⟨v, h1, h2, h3⟩)
        case c15 => exact ask_call hG (guard_some rfl rfl rfl) _ _ _ #[.pointer (some ⟨x, 0, none⟩), .int .u64 (fa : Int), .int .u64 (fb : Int)] (.is (.bool true)) rfl (by kernel_rfl) rfl rfl (by intro k hk; cases hk; rfl) (fun W hW => (HFits.out W hW).mono fun e w' h => by obtain ⟨v, h1, h2, h3⟩ := h; exact ⟨v, h1, h2, h3⟩)
        case c16 => exact ask_exec (guard_some rfl rfl rfl) (.bool false) rfl rfl (by intro k hk; cases hk; rfl) (fun W hW => by kernel_rfl)
        case c17 => exact ask_pick (guard_none rfl) (.tmp 43) (.const (.bool true)) (.tmp 53) false rfl rfl (by intro k hk; cases hk; rfl)
      · intro af W9 hW hd' hs' hf'
        have t0 : af.tmps.getD 0 undef = .pointer (some ⟨B, 0, none⟩) := hf' 0 rfl
        have t8 : af.tmps.getD 8 undef = .pointer (some ⟨l, 0, none⟩) := hf' 8 rfl
        have t54 : af.tmps.getD 54 undef = .bool false := hf' 54 rfl
        obtain ⟨us, hus, haf⟩ := act_open 70 af hs' hd'
        rw [← hus] at t0 t8 t54
        have el : ((List.range 70).map us).toArray = #[us 0, us 1, us 2, us 3, us 4, us 5, us 6, us 7, us 8, us 9, us 10, us 11, us 12, us 13, us 14, us 15, us 16, us 17, us 18, us 19, us 20, us 21, us 22, us 23, us 24, us 25, us 26, us 27, us 28, us 29, us 30, us 31, us 32, us 33, us 34, us 35, us 36, us 37, us 38, us 39, us 40, us 41, us 42, us 43, us 44, us 45, us 46, us 47, us 48, us 49, us 50, us 51, us 52, us 53, us 54, us 55, us 56, us 57, us 58, us 59, us 60, us 61, us 62, us 63, us 64, us 65, us 66, us 67, us 68, us 69] := rfl
        rw [el] at haf
        subst haf
        rw [t0, t8, t54]
        have HW9 := Lib.hid hW
        clear hus t0 t8 t54 el hf' hs' hd' hW
        have hb9 : Blk (W9.setCell ⟨B, 1, none⟩ (.pointer (some ⟨l, 0, none⟩))) B 40 (runC d l x) := Blk.set (HB4.out.keep HW9.out) 1 _
        have c1 : W9.cell? ⟨B, 1, none⟩ = some lv := by rw [(HB4.out.keep HW9.out).cell]; rfl
        have f1 : W9.frozen? ⟨B, 1, none⟩ = false := (HB4.out.keep HW9.out).frozen 1
        have HB9 := Lib.hid hb9
        clear hb9
        go_upto_region 12 with fail
        clear c1 f1
        obtain ⟨w5, hw5⟩ : ∃ w5, w5 = W9.setCell ⟨B, 1, none⟩ (.pointer (some ⟨l, 0, none⟩)) := ⟨_, rfl⟩
        rw [← hw5] at HB9 ⊢
        have hb45 : Below w4.heap.size (w4.setCell ⟨B, 1, none⟩ (.pointer (some ⟨l, 0, none⟩))) w5 := by rw [hw5]; exact below_both HW9.out _ _
        have hX5 : RL w5 X x V := by
          rw [hw5]
          refine (HX4.out.below HW9.out).same (fun n hn => heap_set_other (fun e : n = B => H5.out (by rw [← e]; exact hn)) _) (by simp [World.setCell])
        have hne : l ≠ B := fun e => by
          obtain ⟨_, _, h1, h2, _⟩ := HPn.out.pr.log
          rcases h2 with h2 | h2
          · exact H4.out (e ▸ h2)
          · have := HB.out.lt; omega
        obtain ⟨la, lc, hl, -, hlim⟩ := HPn.out.pr.log
        have hl5 : Blk w5 l 108 (logC d qL T1.first (.slice la T1.recs.length lc) false) := by
          rw [hw5]
          unfold Blk
          rw [heap_set_other hne]
          exact hl.keep HW9.out
        have eFa : T1.first = fa := by rw [← HEF.out, HFa.out]
        have eFb : T1.first + T1.recs.length = fb := by
          rw [← HEF.out, HFb.out, HT1.out]
          simp only [tookW, List.length_drop, List.length_take]
          have := HG2.out
          omega
        have HFirst5 := Lib.hid (fun (W : World) (hW : Below w5.heap.size w5 W) => show Calls Tryz.prog 29 #[.pointer (some ⟨l, 0, none⟩)] W (fun e w' => ∃ v, e = .returned v ∧ v = .int .u64 (fa : Int) ∧ Below W.heap.size W w') from (wfirst_any (hl5.keep hW)).mono fun e w' h => by obtain ⟨h1, rfl⟩ := h; exact ⟨_, h1, by rw [eFa], Below.refl _ _⟩)
        have HNext5 := Lib.hid (fun (W : World) (hW : Below w5.heap.size w5 W) => show Calls Tryz.prog 30 #[.pointer (some ⟨l, 0, none⟩)] W (fun e w' => ∃ v, e = .returned v ∧ v = .int .u64 (fb : Int) ∧ Below W.heap.size W w') from (wnext_any (hl5.keep hW) (by omega)).mono fun e w' h => by obtain ⟨h1, m, rfl⟩ := h; exact ⟨_, h1, by rw [eFb], below_dn (Below.refl _ _) m⟩)
        have HX5 := Lib.hid hX5
        have HB45 := Lib.hid hb45
        have hG5 : ∀ W W' : World, Below w5.heap.size w5 W → Below W.heap.size W W' → Below w5.heap.size w5 W' := fun W W' h h' => h.trans (h'.mono h.size)
        clear hw5 hb45 hX5 hne hl hlim hl5 eFa eFb HFirst HNext HFits hG
        refine region_tails_by 8 [(59, .is (.pointer (some ⟨B, 0, none⟩))), (60, .is (.pointer (some ⟨B, 0, none⟩))), (61, .is (.pointer (some ⟨B, 2, none⟩))), (62, .is (.pointer (some ⟨x, 0, none⟩))), (63, .is (.pointer (some ⟨l, 0, none⟩))), (64, .is (.int .u64 (fa : Int))), (65, .is (.pointer (some ⟨l, 0, none⟩))), (66, .is (.int .u64 (fb : Int)))] [0, 62, 64, 66] (fun W => Below w5.heap.size w5 W) (by kernel_rfl) (by kernel_rfl) (by kernel_rfl) (by kernel_rfl) (by kernel_rfl) (by decide) (by kernel_rfl) (by kernel_rfl) ((Below.refl _ _).drew) ?_ ?_
        · refine ⟨?c0, ?c1, ?c2, ?c3, ?c4, ?c5, ?c6, ?c7, trivial⟩
          case c0 => exact ask_copy (guard_none rfl) (.tmp 0) (.inl rfl) (by intro k hk; cases hk; rfl)
          case c1 => exact ask_exec (guard_none rfl) (.pointer (some ⟨B, 0, none⟩)) rfl rfl (by intro k hk; cases hk; rfl) (fun W hW => by kernel_rfl)
          case c2 => exact ask_field (guard_none rfl) _ (.tmp 60) 2 (.pointer (some ⟨B, 0, none⟩)) (.pointer (some ⟨B, 2, none⟩)) rfl rfl (by intro k hk; cases hk; rfl) (fun W => by kernel_rfl)
          case c3 => exact ask_load (guard_none rfl) _ (.tmp 61) (.pointer (some ⟨B, 2, none⟩)) (.pointer (some ⟨x, 0, none⟩)) rfl rfl (by intro k hk; cases hk; rfl) (fun W hW => load_rl W _ _ (by rw [hW.cell (p := ⟨B, 2, none⟩) HB9.out.lt, HB9.out.cell]; rfl))
          case c4 => exact ask_copy (guard_none rfl) (.tmp 8) (.inl rfl) (by intro k hk; cases hk; rfl)
          case c5 => exact ask_call hG5 (guard_none rfl) _ _ _ #[.pointer (some ⟨l, 0, none⟩)] (.is (.int .u64 (fa : Int))) rfl (by kernel_rfl) rfl rfl (by intro k hk; cases hk; rfl) (fun W hW => (HFirst5.out W hW).mono fun e w' h => by obtain ⟨v, h1, h2, h3⟩ := h; exact ⟨v, h1, h2, h3⟩)
          case c6 => exact ask_copy (guard_none rfl) (.tmp 8) (.inl rfl) (by intro k hk; cases hk; rfl)
          case c7 => exact ask_call hG5 (guard_none rfl) _ _ _ #[.pointer (some ⟨l, 0, none⟩)] (.is (.int .u64 (fb : Int))) rfl (by kernel_rfl) rfl rfl (by intro k hk; cases hk; rfl) (fun W hW => (HNext5.out W hW).mono fun e w' h => by obtain ⟨v, h1, h2, h3⟩ := h; exact ⟨v, h1, h2, h3⟩)
        · intro af W12 hW hd' hs' hf'
          have t0 : af.tmps.getD 0 undef = .pointer (some ⟨B, 0, none⟩) := hf' 0 rfl
          have t62 : af.tmps.getD 62 undef = .pointer (some ⟨x, 0, none⟩) := hf' 62 rfl
          have t64 : af.tmps.getD 64 undef = .int .u64 (fa : Int) := hf' 64 rfl
          have t66 : af.tmps.getD 66 undef = .int .u64 (fb : Int) := hf' 66 rfl
          obtain ⟨us, hus, haf⟩ := act_open 70 af hs' hd'
          rw [← hus] at t0 t62 t64 t66
          have el : ((List.range 70).map us).toArray = #[us 0, us 1, us 2, us 3, us 4, us 5, us 6, us 7, us 8, us 9, us 10, us 11, us 12, us 13, us 14, us 15, us 16, us 17, us 18, us 19, us 20, us 21, us 22, us 23, us 24, us 25, us 26, us 27, us 28, us 29, us 30, us 31, us 32, us 33, us 34, us 35, us 36, us 37, us 38, us 39, us 40, us 41, us 42, us 43, us 44, us 45, us 46, us 47, us 48, us 49, us 50, us 51, us 52, us 53, us 54, us 55, us 56, us 57, us 58, us 59, us 60, us 61, us 62, us 63, us 64, us 65, us 66, us 67, us 68, us 69] := rfl
          rw [el] at haf
          subst haf
          rw [t0, t62, t64, t66]
          have HW12 := Lib.hid hW
          clear hus t0 t62 t64 t66 el hf' hs' hd' hW
          go_wp2_with fail
          have hta := rTake_any (HX5.out.below HW12.out) k (k + j) (by omega) HG2.out
          rw [← HFa.out, ← HFb.out, ← HT1.out] at hta
          refine hta.mono ?_
          rintro e w6 ⟨rfl, hr6, ho6⟩
          have hsz6 := HW12.out.size
          have h45 : Below w4.heap.size (w4.setCell ⟨B, 1, none⟩ (.pointer (some ⟨l, 0, none⟩))) W12 := HB45.out.trans (HW12.out.mono (by have := HB45.out.size; simpa [World.setCell] using this))
          rw [HT1.out] at hr6
          have hpn := HPn.out
          rw [HT1.out] at hpn
          obtain ⟨q1, q2, q3, q4⟩ := run_taken (c := 700) HLt.out HO.out.only HB.out H1.out H2.out H3.out H4.out H5.out H6.out HR.out.lt (by obtain ⟨_, _, _, _, _, _, h, _⟩ := HR.out.ex; exact h) hpn (Nat.le_refl _) h45 hr6 ho6
          have HQ1 := Lib.hid q1
          have HQ2 := Lib.hid q2
          have HQ3 := Lib.hid q3
          have HQ4 := Lib.hid q4
          have HR6 := Lib.hid hr6
          clear hta hr6 ho6 hsz6 h45 hpn q1 q2 q3 q4
          go_wp2_with fail
          refine (same_any HQ1.out HQ2.out HR6.out).mono ?_
          rintro e w7 ⟨rfl, hb7⟩
          have hfin : Opened w Z B s0 V N (.returned (.bool true)) w7 := by
            have hs7 := hb7.size
            have hs0 := HQ4.out.size
            have hi := HIdle.out
            rw [HT1.out] at hi
            refine ⟨rfl, s1, k, k + j, HK0.out, by omega, HG2.out, HG1.out, (HQ3.out.below hb7).wide (fun n hn => ?_) (more_lt HLt.out (Nat.le_trans hs0 hs7)), hi, HOps.out, HQ4.out.then (OnlyS.of_below (S := fun _ => False) hb7 fun n hn _ => hn) fun n _ h => h.elim, HCalm.out⟩
            rcases hn with hn | hn
            · exact .inl hn
            · exact .inr ⟨hn.1, by omega⟩
          have HFin := Lib.hid hfin
          clear hb7 hfin
          go_wp2
          go_ret
          exact HFin.out
end Go.Proofs.YthaggdkfaglgaaaGreatDoor

/- A run in the midst of a call of the law: its disk, its log, what the log must be, and blocks of the call's own beside them. -/
namespace Go.Proofs.YthaggdkfaglgaaaGreatDoor
set_option maxRecDepth 20000
open Go.RowKit Go.Maps DiskMath WalMath FrameMath Reg

structure At (w : World) (Z : Nat → Prop) (B d l x c : Nat) (s : St) (f : Nat) (R : List (List UInt8)) (over : Bool) (V : WS) (G : Nat → Prop) (W : World) : Prop where
  ex : ∃ S X, Blk W B 40 (runC d l x) ∧ Pr W S d l c qL s f R over ∧ RL W X x V ∧ (∀ k, S k → more w Z W k) ∧ (∀ k, X k → more w Z W k) ∧ (∀ k, S k → ¬ X k) ∧ ¬ S B ∧ ¬ X B ∧ Z B ∧ (∀ k, G k → ¬ S k ∧ ¬ X k)
  glt : ∀ k, G k → w.heap.size ≤ k ∧ k < W.heap.size
  only : OnlyS Z w W
  zlt : ∀ k, Z k → k < w.heap.size

/-- The blocks of G are as they were. -/
def SameG (G : Nat → Prop) (W W' : World) : Prop := ∀ k, G k → W'.heap[k]? = W.heap[k]?

theorem SameG.blk {G : Nat → Prop} {W W' : World} (h : SameG G W W') {g : Nat} {t : TypeId} {cs : Array Value} (hg : G g) (hb : Blk W g t cs) : Blk W' g t cs := by
  unfold Blk
  rw [h g hg]
  exact hb

theorem SameG.row {G : Nat → Prop} {W W' : World} (h : SameG G W W') {B : Nat} {v : Value} {t : List UInt8} (hg : ∀ k, v.ownBlock = some k → G k) (hr : Row W B v t) : Row W' B v t :=
  ownRow_same hr fun k hk => h k (hg k hk)

theorem SameG.trans {G : Nat → Prop} {W W' W'' : World} (h : SameG G W W') (h' : SameG G W' W'') : SameG G W W'' := fun k hk => (h' k hk).trans (h k hk)

theorem at_of_run {w : World} {Z : Nat → Prop} {B : Nat} {s : St} {f : Nat} {R : List (List UInt8)} {over : Bool} {V : WS} (h : Run w Z B s f R over V) : ∃ d l x c, c ≤ 700 ∧ At w Z B d l x c s f R over V (fun _ => False) w := by
  obtain ⟨d, l, x, c, S, X, hc, hb, hp, hr, h1, h2, h3, h4, h5, h6⟩ := h.ex
  exact ⟨d, l, x, c, hc, ⟨S, X, hb, hp, hr, fun k hk => .inl (h1 k hk), fun k hk => .inl (h2 k hk), h3, h4, h5, h6, fun k hk => hk.elim⟩, fun k hk => hk.elim, OnlyS.refl _ _, h.lt⟩

section
variable {w W W' : World} {Z G : Nat → Prop} {B d l x c : Nat} {s : St} {f : Nat} {R : List (List UInt8)} {over : Bool} {V : WS}

theorem At.size (h : At w Z B d l x c s f R over V G W) : w.heap.size ≤ W.heap.size := h.only.size

theorem At.lts (h : At w Z B d l x c s f R over V G W) : B < W.heap.size ∧ l < W.heap.size ∧ x < W.heap.size := by
  obtain ⟨S, X, hb, hp, hr, -⟩ := h.ex
  obtain ⟨a, c', h1, -⟩ := hp.log
  obtain ⟨v, us, h2, -⟩ := hr.ex
  exact ⟨hb.lt, h1.lt, h2.lt⟩

theorem At.blkB (h : At w Z B d l x c s f R over V G W) : Blk W B 40 (runC d l x) := by
  obtain ⟨S, X, hb, -⟩ := h.ex
  exact hb

theorem At.blkX (h : At w Z B d l x c s f R over V G W) : ∃ v, Blk W x 35 (refC V v) := by
  obtain ⟨S, X, hb, hp, hr, -⟩ := h.ex
  obtain ⟨v, us, h1, _⟩ := hr.ex
  exact ⟨v, h1⟩

theorem At.wok (h : At w Z B d l x c s f R over V G W) : Wok V := by
  obtain ⟨S, X, hb, hp, hr, -⟩ := h.ex
  exact hr.ok

theorem At.below (h : At w Z B d l x c s f R over V G W) (hb : Below W.heap.size W W') : At w Z B d l x c s f R over V G W' ∧ SameG G W W' := by
  obtain ⟨S, X, h0, hp, hr, h1, h2, h3, h4, h5, h6, h7⟩ := h.ex
  have hs := hb.size
  refine ⟨⟨⟨S, X, h0.keep hb, hp.below hb, hr.below hb, fun k hk => ?_, fun k hk => ?_, h3, h4, h5, h6, h7⟩, fun k hk => ?_, ?_, h.zlt⟩, fun k hk => hb.block k (h.glt k hk).2⟩
  · rcases h1 k hk with h | h
    · exact .inl h
    · exact .inr ⟨h.1, by omega⟩
  · rcases h2 k hk with h | h
    · exact .inl h
    · exact .inr ⟨h.1, by omega⟩
  · have := h.glt k hk; omega
  · exact h.only.then (OnlyS.of_below (S := fun _ => False) hb fun k hk _ => hk) fun k _ hk => hk.elim

/-- What is made anew is the call's own. -/
theorem At.grow (h : At w Z B d l x c s f R over V G W) (hb : Below W.heap.size W W') : At w Z B d l x c s f R over V (fun k => G k ∨ (W.heap.size ≤ k ∧ k < W'.heap.size)) W' ∧ SameG G W W' := by
  obtain ⟨⟨⟨S, X, h0, hp, hr, h1, h2, h3, h4, h5, h6, h7⟩, hg, ho, hz⟩, hs⟩ := h.below hb
  have hsz := h.only.size
  obtain ⟨S0, X0, k0, kp, kr, k1, k2, k3, k4, k5, k6, k7⟩ := h.ex
  have hsz2 := hb.size
  refine ⟨⟨⟨S0, X0, k0.keep hb, kp.below hb, kr.below hb, fun k hk => ?_, fun k hk => ?_, k3, k4, k5, k6, fun k hk => ?_⟩, fun k hk => ?_, ho, hz⟩, hs⟩
  · rcases k1 k hk with h | h
    · exact .inl h
    · exact .inr ⟨h.1, by omega⟩
  · rcases k2 k hk with h | h
    · exact .inl h
    · exact .inr ⟨h.1, by omega⟩
  · rcases hk with hk | hk
    · exact k7 k hk
    · exact ⟨fun hs => by have := kp.lt k hs; omega, fun hx => by have := kr.lt k hx; omega⟩
  · rcases hk with hk | hk
    · exact hg k hk
    · exact ⟨by omega, hk.2⟩

/-- Only the call's own blocks are written. -/
theorem At.write (h : At w Z B d l x c s f R over V G W) (ho : OnlyS G W W') : At w Z B d l x c s f R over V G W' := by
  obtain ⟨S, X, h0, hp, hr, h1, h2, h3, h4, h5, h6, h7⟩ := h.ex
  have hs := ho.size
  have hB : ¬ G B := fun hg => by have := (h.glt B hg).1; have := h.zlt B h6; omega
  refine ⟨⟨S, X, ?_, hp.same (fun k hk => ho.block k (hp.lt k hk) fun hg => (h7 k hg).1 hk) hs, hr.same (fun k hk => ho.block k (hr.lt k hk) fun hg => (h7 k hg).2 hk) hs, fun k hk => ?_, fun k hk => ?_, h3, h4, h5, h6, h7⟩, fun k hk => ?_, ?_, h.zlt⟩
  · unfold Blk
    rw [ho.block B h0.lt hB]
    exact h0
  · rcases h1 k hk with h | h
    · exact .inl h
    · exact .inr ⟨h.1, by omega⟩
  · rcases h2 k hk with h | h
    · exact .inl h
    · exact .inr ⟨h.1, by omega⟩
  · have := h.glt k hk; omega
  · exact h.only.then ho fun k hk hg => by have := (h.glt k hg).1; omega

/-- A call of the log. -/
theorem at_log {S X : Nat → Prop} {c' : Nat} {s' : St} {f' : Nat} {R' : List (List UInt8)} {over' : Bool} (h : At w Z B d l x c s f R over V G W) (h0 : Blk W B 40 (runC d l x)) (hr : RL W X x V) (h1 : ∀ k, S k → more w Z W k) (h2 : ∀ k, X k → more w Z W k) (h3 : ∀ k, S k → ¬ X k) (h4 : ¬ S B) (h5 : ¬ X B) (h6 : Z B) (h7 : ∀ k, G k → ¬ S k ∧ ¬ X k)
    (hn : PNx W S d l c' qL s' f' R' over' W') : At w Z B d l x c' s' f' R' over' V G W' ∧ SameG G W W' := by
  have hs := hn.only.size
  have hs0 := h.only.size
  refine ⟨⟨⟨more W S W', X, ?_, hn.pr, hr.same (fun k hk => hn.only.block k (hr.lt k hk) fun hS => h3 k hS hk) hs, fun k hk => ?_, fun k hk => ?_, fun k hk hx => ?_, fun hk => ?_, h5, h6, fun k hk => ⟨fun hS => ?_, (h7 k hk).2⟩⟩, fun k hk => ?_, ?_, h.zlt⟩, fun k hk => hn.only.block k (h.glt k hk).2 (h7 k hk).1⟩
  · unfold Blk
    rw [hn.only.block B h0.lt h4]
    exact h0
  · rcases hk with hk | hk
    · rcases h1 k hk with h | h
      · exact .inl h
      · exact .inr ⟨h.1, by omega⟩
    · exact .inr ⟨by omega, by omega⟩
  · rcases h2 k hk with h | h
    · exact .inl h
    · exact .inr ⟨h.1, by omega⟩
  · rcases hk with hk | hk
    · exact h3 k hk hx
    · have := hr.lt k hx; omega
  · rcases hk with hk | hk
    · exact h4 hk
    · have := h0.lt; omega
  · rcases hS with hS | hS
    · exact (h7 k hk).1 hS
    · have := (h.glt k hk).2; omega
  · have := h.glt k hk; omega
  · exact h.only.then hn.only fun k hk hS => by
      rcases h1 k hS with h | h
      · exact h
      · omega

/-- A call of the reference's log. -/
theorem at_ref {S X X' : Nat → Prop} {V' : WS} (h : At w Z B d l x c s f R over V G W) (h0 : Blk W B 40 (runC d l x)) (hp : Pr W S d l c qL s f R over) (h1 : ∀ k, S k → more w Z W k) (h2 : ∀ k, X k → more w Z W k) (h3 : ∀ k, S k → ¬ X k) (h4 : ¬ S B) (h5 : ¬ X B) (h6 : Z B) (h7 : ∀ k, G k → ¬ S k ∧ ¬ X k)
    (hr' : RL W' X' x V') (hX' : ∀ k, X' k → X k ∨ (W.heap.size ≤ k ∧ k < W'.heap.size)) (ho : OnlyS X W W') : At w Z B d l x c s f R over V' G W' ∧ SameG G W W' := by
  have hs := ho.size
  have hs0 := h.only.size
  refine ⟨⟨⟨S, X', ?_, hp.same (fun k hk => ho.block k (hp.lt k hk) (h3 k hk)) hs, hr', fun k hk => ?_, fun k hk => ?_, fun k hk hx => ?_, h4, fun hk => ?_, h6, fun k hk => ⟨(h7 k hk).1, fun hx => ?_⟩⟩, fun k hk => ?_, ?_, h.zlt⟩, fun k hk => ho.block k (h.glt k hk).2 (h7 k hk).2⟩
  · unfold Blk
    rw [ho.block B h0.lt h5]
    exact h0
  · rcases h1 k hk with h | h
    · exact .inl h
    · exact .inr ⟨h.1, by omega⟩
  · rcases hX' k hk with hx | hx
    · rcases h2 k hx with h | h
      · exact .inl h
      · exact .inr ⟨h.1, by omega⟩
    · exact .inr ⟨by omega, hx.2⟩
  · rcases hX' k hx with hx | hx
    · exact h3 k hk hx
    · have := hp.lt k hk; omega
  · rcases hX' B hk with hx | hx
    · exact h5 hx
    · have := h0.lt; omega
  · rcases hX' k hx with hx | hx
    · exact (h7 k hk).2 hx
    · have := (h.glt k hk).2; omega
  · have := h.glt k hk; omega
  · exact h.only.then ho fun k hk hX => by
      rcases h2 k hX with h | h
      · exact h
      · omega

theorem At.tight {c' : Nat} (h : At w Z B d l x c s f R over V G W) (hc : s.sure.length + s.ops.length ≤ c') (h2 : c' ≤ 2000) : At w Z B d l x c' s f R over V G W := by
  obtain ⟨S, X, h0, hp, h1⟩ := h.ex
  exact ⟨⟨S, X, h0, hp.tight hc h2, h1⟩, h.glt, h.only, h.zlt⟩

theorem At.run (h : At w Z B d l x c s f R over V G W) (hc : c ≤ 700) : Run W (more w Z W) B s f R over V := by
  obtain ⟨S, X, h0, hp, hr, h1, h2, h3, h4, h5, h6, h7⟩ := h.ex
  exact ⟨⟨d, l, x, c, S, X, hc, h0, hp, hr, h1, h2, h3, h4, h5, .inl h6⟩, more_lt h.zlt h.only.size⟩

theorem At.tab (h : At w Z B d l x c s f R over V G W) (ht : Tab w) (hZ : ¬ Z 0) : Tab W := tab_only ht h.only hZ

theorem notS0 (ht : Tab w) (hZ : ¬ Z 0) {S : Nat → Prop} (h1 : ∀ k, S k → more w Z W k) : ¬ S 0 := fun hS => by
  have := tab_pos ht
  rcases h1 0 hS with h | h
  · exact hZ h
  · omega

theorem at_append (h : At w Z B d l x c s f R false V G W) (hc : c + 1 ≤ 2000) (hlim : f + R.length ≤ 98) {ra : Option Addr} {rl rc : Nat} {r : List UInt8} (hr : Bys W (.slice ra rl rc) r) (hrl : r.length = rl) (hr2 : rl ≤ 16384) (hra : ∀ k, (Value.slice ra rl rc).ownBlock = some k → G k) (ht : Tab w) (hZ : ¬ Z 0) :
    Calls Tryz.prog 31 #[.pointer (some ⟨l, 0, none⟩), .slice ra rl rc] W fun e W' => e = .returned (.int .i64 (said (layA qL s (f + R.length) r).1 : Int)) ∧ ∃ c', c' ≤ c + 1 ∧ At w Z B d l x c' (layA qL s (f + R.length) r).2 f (if (layA qL s (f + R.length) r).1 = 0 then R ++ [r] else R) (decide ((layA qL s (f + R.length) r).1 ≠ 0) && decide ((layA qL s (f + R.length) r).1 ≠ 7)) V G W' ∧ SameG G W W' := by
  obtain ⟨S, X, h0, hp, hx, h1, h2, h3, h4, h5, h6, h7⟩ := h.ex
  refine (wAppend_any (by decide) hp hc hlim hr hrl hr2 (fun k hk => (h7 k (hra k hk)).1) (h.tab ht hZ) (notS0 ht hZ h1)).mono ?_
  rintro e W' ⟨rfl, c', hc', hn⟩
  exact ⟨rfl, c', hc', at_log h h0 hx h1 h2 h3 h4 h5 h6 h7 hn⟩

theorem at_append_long (h : At w Z B d l x c s f R false V G W) (ra : Option Addr) (rl rc : Nat) (hl : 16384 < rl) :
    Calls Tryz.prog 31 #[.pointer (some ⟨l, 0, none⟩), .slice ra rl rc] W fun e W' => e = .returned (.int .i64 4) ∧ Below W.heap.size W W' := by
  obtain ⟨S, X, h0, hp, -⟩ := h.ex
  exact wAppend_long hp ra rl rc hl

theorem at_sync (h : At w Z B d l x c s f R false V G W) :
    Calls Tryz.prog 19 #[.pointer (some ⟨l, 0, none⟩)] W fun e W' => e = .returned (.int .i64 (said s.sync.1 : Int)) ∧ ∃ c', c' ≤ c ∧ At w Z B d l x c' s.sync.2 f R (decide (s.sync.1 ≠ 0) && decide (s.sync.1 ≠ 7)) V G W' ∧ SameG G W W' := by
  obtain ⟨S, X, h0, hp, hx, h1, h2, h3, h4, h5, h6, h7⟩ := h.ex
  refine (wSync_any hp).mono ?_
  rintro e W' ⟨rfl, c', hc', hn⟩
  exact ⟨rfl, c', hc', at_log h h0 hx h1 h2 h3 h4 h5 h6 h7 hn⟩

theorem at_cut (h : At w Z B d l x c s f R false V G W) (hc : c + 100 ≤ 2000) {k : Nat} (hk : k ≤ R.length) :
    Calls Tryz.prog 32 #[.pointer (some ⟨l, 0, none⟩), .int .u64 ((f + k : Nat) : Int)] W fun e W' => e = .returned (.int .i64 (said (cutA qL s f k R.length).1 : Int)) ∧ ∃ c', c' ≤ c + 100 ∧ At w Z B d l x c' (cutA qL s f k R.length).2 f (if (cutA qL s f k R.length).1 = 0 then R.take k else R) (decide ((cutA qL s f k R.length).1 ≠ 0) && decide ((cutA qL s f k R.length).1 ≠ 7)) V G W' ∧ SameG G W W' := by
  obtain ⟨S, X, h0, hp, hx, h1, h2, h3, h4, h5, h6, h7⟩ := h.ex
  refine (wCut_any (by decide) hp hc hk).mono ?_
  rintro e W' ⟨rfl, c', hc', hn⟩
  exact ⟨rfl, c', hc', at_log h h0 hx h1 h2 h3 h4 h5 h6 h7 hn⟩

theorem at_trim (h : At w Z B d l x c s f R false V G W) (hc : c + 100 ≤ 2000) {k : Nat} (hk : k ≤ R.length) :
    Calls Tryz.prog 33 #[.pointer (some ⟨l, 0, none⟩), .int .u64 ((f + k : Nat) : Int)] W fun e W' => e = .returned (.int .i64 (said (trimA qL s f k).1 : Int)) ∧ ∃ c', c' ≤ c + 100 ∧ At w Z B d l x c' (trimA qL s f k).2 (if (trimA qL s f k).1 = 0 then f + k else f) (if (trimA qL s f k).1 = 0 then R.drop k else R) (decide ((trimA qL s f k).1 ≠ 0) && decide ((trimA qL s f k).1 ≠ 7)) V G W' ∧ SameG G W W' := by
  obtain ⟨S, X, h0, hp, hx, h1, h2, h3, h4, h5, h6, h7⟩ := h.ex
  refine (wTrim_any (by decide) hp hc hk).mono ?_
  rintro e W' ⟨rfl, c', hc', hn⟩
  exact ⟨rfl, c', hc', at_log h h0 hx h1 h2 h3 h4 h5 h6 h7 hn⟩

theorem at_cut_range (h : At w Z B d l x c s f R false V G W) (m : Nat) (hm : m < f ∨ f + R.length < m) :
    Calls Tryz.prog 32 #[.pointer (some ⟨l, 0, none⟩), .int .u64 m] W fun e W' => e = .returned (.int .i64 9) ∧ Below W.heap.size W W' := by
  obtain ⟨S, X, h0, hp, -⟩ := h.ex
  exact wCut_range hp m hm

theorem at_trim_range (h : At w Z B d l x c s f R false V G W) (m : Nat) (hm : m < f ∨ f + R.length < m) :
    Calls Tryz.prog 33 #[.pointer (some ⟨l, 0, none⟩), .int .u64 m] W fun e W' => e = .returned (.int .i64 9) ∧ Below W.heap.size W W' := by
  obtain ⟨S, X, h0, hp, -⟩ := h.ex
  exact wTrim_range hp m hm

/-- Behind a call that was lost. -/
theorem at_over (h : At w Z B d l x c s f R true V G W) (ra : Option Addr) (rl rc : Nat) (m : Int) :
    Calls Tryz.prog 31 #[.pointer (some ⟨l, 0, none⟩), .slice ra rl rc] W (fun e W' => ∃ v, e = .returned v ∧ v = .int .i64 6 ∧ Below W.heap.size W W') ∧
    Calls Tryz.prog 19 #[.pointer (some ⟨l, 0, none⟩)] W (fun e W' => ∃ v, e = .returned v ∧ v = .int .i64 6 ∧ Below W.heap.size W W') ∧
    Calls Tryz.prog 32 #[.pointer (some ⟨l, 0, none⟩), .int .u64 m] W (fun e W' => ∃ v, e = .returned v ∧ v = .int .i64 6 ∧ Below W.heap.size W W') ∧
    Calls Tryz.prog 33 #[.pointer (some ⟨l, 0, none⟩), .int .u64 m] W (fun e W' => ∃ v, e = .returned v ∧ v = .int .i64 6 ∧ Below W.heap.size W W') := by
  obtain ⟨S, X, h0, hp, -⟩ := h.ex
  exact ⟨(wAppend_over hp ra rl rc).mono fun e W' h => ⟨_, h.1, rfl, h.2⟩, (wSync_over hp).mono fun e W' h => ⟨_, h.1, rfl, h.2⟩, (wCut_over hp m).mono fun e W' h => ⟨_, h.1, rfl, h.2⟩, (wTrim_over hp m).mono fun e W' h => ⟨_, h.1, rfl, h.2⟩⟩

theorem at_down (h : At w Z B d l x c s f R over V G W) : Calls Tryz.prog 18 #[dp d] W fun e W' => ∃ v, e = .returned v ∧ v = .bool s.off ∧ Below W.heap.size W W' := by
  obtain ⟨S, X, h0, hp, -⟩ := h.ex
  obtain ⟨T, U, hd, -⟩ := hp.ex
  obtain ⟨m1, m2, F1, F2, ws, G, hdk, -⟩ := hd.ex
  exact (down_any hdk).mono fun e W' h => ⟨_, h.1, rfl, by rw [h.2]; exact Below.refl _ _⟩

theorem at_same (h : At w Z B d l x c s V.first V.recs over V G W) : Calls Tryz.prog 45 #[.pointer (some ⟨B, 0, none⟩)] W fun e W' => ∃ v, e = .returned v ∧ v = .bool true ∧ Below W.heap.size W W' := by
  obtain ⟨S, X, h0, hp, hx, -⟩ := h.ex
  exact (same_any h0 hp hx).mono fun e W' h => ⟨_, h.1, rfl, h.2⟩

theorem at_next (h : At w Z B d l x c s f R over V G W) : Calls Tryz.prog 24 #[.pointer (some ⟨x, 0, none⟩)] W fun e W' => e = .returned (.int .u64 ((V.first + V.recs.length : Nat) : Int)) ∧ ∃ m, W' = W.drewN m := by
  obtain ⟨S, X, h0, hp, hx, -⟩ := h.ex
  exact rNext_any hx

theorem at_took (h : At w Z B d l x c s f R over V G W) : Calls Tryz.prog 20 #[.pointer (some ⟨x, 0, none⟩)] W fun e W' => e = .returned (.tuple #[]) ∧ At w Z B d l x c s f R over (tookAll V) G W' ∧ SameG G W W' := by
  obtain ⟨S, X, h0, hp, hx, h1, h2, h3, h4, h5, h6, h7⟩ := h.ex
  have hxX : X x := by obtain ⟨_, _, _, _, _, _, h, _⟩ := hx.ex; exact h
  refine (rTook_any hx).mono ?_
  rintro e W' ⟨rfl, hr, ho⟩
  exact ⟨rfl, at_ref h h0 hp h1 h2 h3 h4 h5 h6 h7 hr (fun k hk => .inl hk) (ho.mono fun k _ hk => hk ▸ hxX)⟩

theorem at_lost (h : At w Z B d l x c s f R over V G W) (least may : Nat) (h1' : least ≤ 99) (h2' : may ≤ 99) : Calls Tryz.prog 21 #[.pointer (some ⟨x, 0, none⟩), .int .i64 (least : Int), .int .u64 (may : Int)] W fun e W' => e = .returned (.tuple #[]) ∧ At w Z B d l x c s f R over (lostW V least may) G W' ∧ SameG G W W' := by
  obtain ⟨S, X, h0, hp, hx, h1, h2, h3, h4, h5, h6, h7⟩ := h.ex
  have hxX : X x := by obtain ⟨_, _, _, _, _, _, h, _⟩ := hx.ex; exact h
  refine (rLost_any hx least may h1' h2').mono ?_
  rintro e W' ⟨rfl, hr, ho⟩
  exact ⟨rfl, at_ref h h0 hp h1 h2 h3 h4 h5 h6 h7 hr (fun k hk => .inl hk) (ho.mono fun k _ hk => hk ▸ hxX)⟩

theorem at_appended (h : At w Z B d l x c s f R over V G W) (hlim : V.first + V.recs.length ≤ 98) {ra : Option Addr} {rl rc : Nat} {r : List UInt8} (hr : Bys W (.slice ra rl rc) r) (hrl : r.length = rl) (hr2 : rl ≤ 16384) (hra : r ≠ [] → ∀ k, (Value.slice ra rl rc).ownBlock = some k → ¬ Z k ∧ k < w.heap.size) :
    Calls Tryz.prog 46 #[.pointer (some ⟨x, 0, none⟩), .slice ra rl rc] W fun e W' => e = .returned (.tuple #[]) ∧ At w Z B d l x c s f R over (addW V r) G W' ∧ SameG G W W' := by
  obtain ⟨S, X, h0, hp, hx, h1, h2, h3, h4, h5, h6, h7⟩ := h.ex
  refine (rAppended_any hx hlim hr hrl hr2 fun h0 k hk hX => ?_).mono ?_
  · rcases h2 k hX with h | h
    · exact (hra h0 k hk).1 h
    · have := (hra h0 k hk).2; omega
  · rintro e W' ⟨rfl, hr, ho⟩
    exact ⟨rfl, at_ref h h0 hp h1 h2 h3 h4 h5 h6 h7 hr (fun k hk => hk) ho⟩

/-- The list of the reference's log is cut off. -/
theorem at_cutrec (h : At w Z B d l x c s f R over V G W) {k : Nat} (hk : k ≤ V.recs.length) : ∃ (a1 : Option Addr) (n1 c1 : Nat) (a2 : Option Addr) (n2 c2 : Nat), Blk W x 35 (refC V (.slice a1 n1 c1)) ∧ (∀ W1, (Instr.sliceAt 33 (.slice a1 n1 c1) none (some (.int .i64 (k : Int))) none).run Tryz.prog W1 = .ok (.slice a2 n2 c2) W1) ∧
    ∀ W1, Below W.heap.size W W1 → At w Z B d l x c s f R over (cutW V k) G (W1.setCell ⟨x, 1, none⟩ (.slice a2 n2 c2)) ∧ SameG G W (W1.setCell ⟨x, 1, none⟩ (.slice a2 n2 c2)) := by
  obtain ⟨S, X, h0, hp, hx, h1, h2, h3, h4, h5, h6, h7⟩ := h.ex
  obtain ⟨v, us, l1, l2, l3, l4, l5, l6, l7⟩ := hx.ex
  obtain ⟨va, vc, rfl, hvc⟩ := l2.form
  obtain ⟨sa, s1, s2, s3⟩ := l2.sub 0 k vc (Nat.zero_le _) (by omega) (by omega) (Nat.le_refl _)
  refine ⟨_, _, _, sa, k - 0, vc - 0, l1, fun W1 => by rw [slice_txs_h va us.length vc k .i64 (by omega) W1, s1], fun W1 hW => ?_⟩
  have ho : OnlyS (fun n => n = x) W1 (W1.setCell ⟨x, 1, none⟩ (.slice sa (k - 0) (vc - 0))) := (OnlyS.refl (fun n => n = x) W1).setCell (p := ⟨x, 1, none⟩) (fun _ => rfl) _
  have hok := hx.ok
  have hrl : RL (W1.setCell ⟨x, 1, none⟩ (.slice sa (k - 0) (vc - 0))) X x (cutW V k) := rl_part hx hW l1 l3 l4 l5 l6 l7 (lo := 0) hk s2 s3 (by simp [cutW]) ⟨by simp [cutW]; have := hok.lim; omega, hok.sure, hok.least, hok.may, fun t ht => hok.long t (List.mem_of_mem_take ht)⟩ ho (Blk.set (l1.keep hW) 1 _)
  exact at_ref h h0 hp h1 h2 h3 h4 h5 h6 h7 hrl (fun n hn => .inl hn) ((OnlyS.of_below (S := X) hW fun n hn _ => hn).trans (ho.mono fun n _ hn => hn ▸ l5))

/-- The list of the reference's log is trimmed. -/
theorem at_trimrec (h : At w Z B d l x c s f R over V G W) {k : Nat} (hk : k ≤ V.recs.length) : ∃ (a1 : Option Addr) (n1 c1 : Nat) (a2 : Option Addr) (n2 c2 : Nat), Blk W x 35 (refC V (.slice a1 n1 c1)) ∧ (∀ W1, (Instr.sliceAt 33 (.slice a1 n1 c1) (some (.int .i64 (k : Int))) none none).run Tryz.prog W1 = .ok (.slice a2 n2 c2) W1) ∧
    ∀ W1, Below W.heap.size W W1 → (Blk (W1.setCell ⟨x, 1, none⟩ (.slice a2 n2 c2)) x 35 (refC V (.slice a2 n2 c2))) ∧ (At w Z B d l x c s f R over (trimW V k) G ((W1.setCell ⟨x, 1, none⟩ (.slice a2 n2 c2)).setCell ⟨x, 0, none⟩ (.int .u64 ((V.first + k : Nat) : Int))) ∧ SameG G W ((W1.setCell ⟨x, 1, none⟩ (.slice a2 n2 c2)).setCell ⟨x, 0, none⟩ (.int .u64 ((V.first + k : Nat) : Int)))) := by
  obtain ⟨S, X, h0, hp, hx, h1, h2, h3, h4, h5, h6, h7⟩ := h.ex
  obtain ⟨v, us, l1, l2, l3, l4, l5, l6, l7⟩ := hx.ex
  obtain ⟨va, vc, rfl, hvc⟩ := l2.form
  obtain ⟨sa, s1, s2, s3⟩ := l2.sub k us.length vc (by omega) (Nat.le_refl _) hvc (Nat.le_refl _)
  refine ⟨_, _, _, sa, us.length - k, vc - k, l1, fun W1 => by rw [slice_txs_l va us.length vc k .i64 (by omega) W1, s1], fun W1 hW => ?_⟩
  have ho : OnlyS (fun n => n = x) W1 ((W1.setCell ⟨x, 1, none⟩ (.slice sa (us.length - k) (vc - k))).setCell ⟨x, 0, none⟩ (.int .u64 ((V.first + k : Nat) : Int))) := ((OnlyS.refl (fun n => n = x) W1).setCell (p := ⟨x, 1, none⟩) (fun _ => rfl) _).setCell (p := ⟨x, 0, none⟩) (fun _ => rfl) _
  have hok := hx.ok
  have hb1 : Blk (W1.setCell ⟨x, 1, none⟩ (.slice sa (us.length - k) (vc - k))) x 35 (refC V (.slice sa (us.length - k) (vc - k))) := Blk.set (l1.keep hW) 1 _
  have hrl : RL ((W1.setCell ⟨x, 1, none⟩ (.slice sa (us.length - k) (vc - k))).setCell ⟨x, 0, none⟩ (.int .u64 ((V.first + k : Nat) : Int))) X x (trimW V k) := rl_part hx hW l1 l3 l4 l5 l6 l7 (lo := k) (hi := us.length) (by omega) s2 s3 (by simp only [trimW]; rw [l3, List.take_length]) ⟨by simp [trimW]; have := hok.lim; omega, hok.sure, hok.least, hok.may, fun t ht => hok.long t (List.mem_of_mem_drop ht)⟩ ho (Blk.set hb1 0 _)
  exact ⟨hb1, at_ref h h0 hp h1 h2 h3 h4 h5 h6 h7 hrl (fun n hn => .inl hn) ((OnlyS.of_below (S := X) hW fun n hn _ => hn).trans (ho.mono fun n _ hn => hn ▸ l5))⟩
end
end Go.Proofs.YthaggdkfaglgaaaGreatDoor

/- What a call of the law leaves; how the log's four calls end. -/
namespace Go.Proofs.YthaggdkfaglgaaaGreatDoor
set_option maxRecDepth 20000
open Go.RowKit Go.Maps DiskMath WalMath FrameMath Reg

/-- What call leaves. -/
def Called (w : World) (Z : Nat → Prop) (B : Nat) (s : St) (N : Nat) (e : Ending) (w' : World) : Prop :=
  e = .returned (.bool true) ∧ OnlyS Z w w' ∧ ∃ s' V', ((Run w' (more w Z w') B s' V'.first V'.recs false V' ∧ Idle s' V' (N + 1)) ∨ (RunD w' (more w Z w') B s' V' ∧ Gone s' V' (N + 1) ∧ ¬ Calm s)) ∧ (Calm s → Calm s')

section
variable {w W W' : World} {Z G : Nat → Prop} {B d l x c : Nat} {s : St} {V : WS} {N : Nat}

theorem called_ok {s' : St} {V' : WS} (h : At w Z B d l x c s' V'.first V'.recs false V' G W) (hi : Idle s' V' (N + 1)) (hN : N ≤ 98) (hc : Calm s → Calm s') : Called w Z B s N (.returned (.bool true)) W :=
  ⟨rfl, h.only, s', V', .inl ⟨(h.tight (c' := 400) (by have := hi.rest.sure.few; have := hi.ops; omega) (by decide)).run (by decide), hi⟩, hc⟩

theorem called_lost {s' : St} {V' : WS} {f : Nat} {R : List (List UInt8)} (h : At w Z B d l x c s' f R true V' G W) (hcc : c ≤ 700) (hg : Gone s' V' (N + 1)) (hn : ¬ Calm s) : Called w Z B s N (.returned (.bool true)) W :=
  ⟨rfl, h.only, s', V', .inr ⟨(h.run hcc).disk, hg, hn⟩, fun hc => absurd hc hn⟩

/-- The three ways that a call of the log may end in. -/
def TriA (w : World) (Z : Nat → Prop) (B d l x c : Nat) (s : St) (V : WS) (G : Nat → Prop) (N : Nat) (VL VO : WS) (full : Prop) (e : Ending) (W' : World) : Prop :=
  ∃ c', c' ≤ c ∧
    ((full ∧ e = .returned (.int .i64 7) ∧ At w Z B d l x c' s V.first V.recs false V G W') ∨
     (e = .returned (.int .i64 6) ∧ ¬ Calm s ∧ ∃ s', s'.off = true ∧ At w Z B d l x c' s' V.first V.recs true V G W' ∧ Gone s' VL N) ∨
     (e = .returned (.int .i64 0) ∧ ∃ s', At w Z B d l x c' s' VO.first VO.recs false V G W' ∧ Idle s' VO N ∧ (Calm s → Calm s')))

def Tri (w : World) (Z : Nat → Prop) (B d l x c : Nat) (s : St) (V : WS) (G : Nat → Prop) (W : World) (N : Nat) (VL VO : WS) (full : Prop) (e : Ending) (W' : World) : Prop :=
  SameG G W W' ∧ TriA w Z B d l x c s V G N VL VO full e W'

theorem tri_code {VL VO : WS} {full : Prop} {e : Ending} (h : TriA w Z B d l x c s V G N VL VO full e W') : ∃ cd : Int, e = .returned (.int .i64 cd) := by
  obtain ⟨c', hc, ⟨-, rfl, -⟩ | ⟨rfl, -⟩ | ⟨rfl, -⟩⟩ := h
  · exact ⟨_, rfl⟩
  · exact ⟨_, rfl⟩
  · exact ⟨_, rfl⟩

theorem TriA.write {VL VO : WS} {full : Prop} {e : Ending} (h : TriA w Z B d l x c s V G N VL VO full e W) (ho : OnlyS G W W') : TriA w Z B d l x c s V G N VL VO full e W' := by
  obtain ⟨c', hc, ⟨h1, h2, h3⟩ | ⟨h1, h2, s', h3, h4, h5⟩ | ⟨h1, s', h2, h3⟩⟩ := h
  · exact ⟨c', hc, .inl ⟨h1, h2, h3.write ho⟩⟩
  · exact ⟨c', hc, .inr (.inl ⟨h1, h2, s', h3, h4.write ho, h5⟩)⟩
  · exact ⟨c', hc, .inr (.inr ⟨h1, s', h2.write ho, h3⟩)⟩

theorem tri_append (h : At w Z B d l x c s V.first V.recs false V G W) (hi : Idle s V N) (hN : N ≤ 98) (hc : c + 1 ≤ 2000) {ra : Option Addr} {rl rc : Nat} {r : List UInt8} (hr : Bys W (.slice ra rl rc) r) (hrl : r.length = rl) (hr2 : rl ≤ 16384) (hra : ∀ k, (Value.slice ra rl rc).ownBlock = some k → G k) (ht : Tab w) (hZ : ¬ Z 0) :
    Calls Tryz.prog 31 #[.pointer (some ⟨l, 0, none⟩), .slice ra rl rc] W (Tri w Z B d l x (c + 1) s V G W (N + 1) (lostW (addW V r) V.sure V.first) (addW V r) True) := by
  have hnum := hi.num
  refine (at_append h hc (by omega) hr hrl hr2 hra ht hZ).mono ?_
  rintro e W' ⟨rfl, c', hc', ha, hs⟩
  refine ⟨hs, c', hc', ?_⟩
  have hcalm := fun hcm : Calm s => calm_lay (q := qL) hcm (V.first + V.recs.length) r
  rcases idle_append hi hN r (by omega) with h7 | ⟨h6, hg⟩ | ⟨h0, hid⟩
  · left
    rw [h7] at ha
    rw [h7]
    exact ⟨trivial, rfl, ha⟩
  · right; left
    rw [h6] at ha hcalm
    rw [h6]
    exact ⟨rfl, fun hcm => (hcalm hcm).1 rfl, _, hg.off, ha, hg⟩
  · right; right
    rw [h0] at ha
    rw [h0]
    exact ⟨rfl, _, ha, hid, fun hcm => (hcalm hcm).2⟩

theorem tri_sync (h : At w Z B d l x c s V.first V.recs false V G W) (hi : Idle s V N) :
    Calls Tryz.prog 19 #[.pointer (some ⟨l, 0, none⟩)] W (Tri w Z B d l x c s V G W N (lostW V V.sure V.first) (tookAll V) False) := by
  refine (at_sync h).mono ?_
  rintro e W' ⟨rfl, c', hc', ha, hs⟩
  refine ⟨hs, c', hc', ?_⟩
  have hcalm := fun hcm : Calm s => calm_sync hcm
  rcases idle_sync hi with ⟨h6, hg⟩ | ⟨h0, hid⟩
  · right; left
    rw [h6] at ha hcalm
    rw [h6]
    exact ⟨rfl, fun hcm => (hcalm hcm).1 rfl, _, hg.off, ha, hg⟩
  · right; right
    rw [h0] at ha
    rw [h0]
    exact ⟨rfl, _, ha, hid, fun hcm => (hcalm hcm).2⟩

theorem tri_cut (h : At w Z B d l x c s V.first V.recs false V G W) (hi : Idle s V N) (hc : c + 100 ≤ 2000) {k : Nat} (hk : k ≤ V.recs.length) :
    Calls Tryz.prog 32 #[.pointer (some ⟨l, 0, none⟩), .int .u64 ((V.first + k : Nat) : Int)] W (Tri w Z B d l x (c + 100) s V G W N (lostW V k V.first) (tookAll (cutW V k)) False) := by
  refine (at_cut h hc hk).mono ?_
  rintro e W' ⟨rfl, c', hc', ha, hs⟩
  refine ⟨hs, c', hc', ?_⟩
  have hcalm := fun hcm : Calm s => calm_cut (q := qL) hcm V.first k V.recs.length
  rcases idle_cut hi hk with ⟨h6, hg⟩ | ⟨h0, hid⟩
  · right; left
    rw [h6] at ha hcalm
    rw [h6]
    exact ⟨rfl, fun hcm => (hcalm hcm).1 rfl, _, hg.off, ha, hg⟩
  · right; right
    rw [h0] at ha
    rw [h0]
    exact ⟨rfl, _, ha, hid, fun hcm => (hcalm hcm).2⟩

theorem tri_trim (h : At w Z B d l x c s V.first V.recs false V G W) (hi : Idle s V N) (hc : c + 100 ≤ 2000) {k : Nat} (hk : k ≤ V.recs.length) :
    Calls Tryz.prog 33 #[.pointer (some ⟨l, 0, none⟩), .int .u64 ((V.first + k : Nat) : Int)] W (Tri w Z B d l x (c + 100) s V G W N (lostW V V.sure (V.first + k)) (tookAll (trimW V k)) True) := by
  refine (at_trim h hc hk).mono ?_
  rintro e W' ⟨rfl, c', hc', ha, hs⟩
  refine ⟨hs, c', hc', ?_⟩
  have hcalm := fun hcm : Calm s => calm_trim (q := qL) hcm V.first k
  rcases idle_trim hi hk with h7 | ⟨h6, hg⟩ | ⟨h0, hid⟩
  · left
    rw [h7] at ha
    rw [h7]
    exact ⟨trivial, rfl, ha⟩
  · right; left
    rw [h6] at ha hcalm
    rw [h6]
    exact ⟨rfl, fun hcm => (hcalm hcm).1 rfl, _, hg.off, ha, hg⟩
  · right; right
    rw [h0] at ha
    rw [h0]
    exact ⟨rfl, _, ha, hid, fun hcm => (hcalm hcm).2⟩
end

set_option maxRecDepth 100000 in
theorem range_346 (us : Nat → Value) : ((List.range 346).map us).toArray = #[us 0, us 1, us 2, us 3, us 4, us 5, us 6, us 7, us 8, us 9, us 10, us 11, us 12, us 13, us 14, us 15, us 16, us 17, us 18, us 19, us 20, us 21, us 22, us 23, us 24, us 25, us 26, us 27, us 28, us 29, us 30, us 31, us 32, us 33, us 34, us 35, us 36, us 37, us 38, us 39, us 40, us 41, us 42, us 43, us 44, us 45, us 46, us 47, us 48, us 49, us 50, us 51, us 52, us 53, us 54, us 55, us 56, us 57, us 58, us 59, us 60, us 61, us 62, us 63, us 64, us 65, us 66, us 67, us 68, us 69, us 70, us 71, us 72, us 73, us 74, us 75, us 76, us 77, us 78, us 79, us 80, us 81, us 82, us 83, us 84, us 85, us 86, us 87, us 88, us 89, us 90, us 91, us 92, us 93, us 94, us 95, us 96, us 97, us 98, us 99, us 100, us 101, us 102, us 103, us 104, us 105, us 106, us 107, us 108, us 109, us 110, us 111, us 112, us 113, us 114, us 115, us 116, us 117, us 118, us 119, us 120, us 121, us 122, us 123, us 124, us 125, us 126, us 127, us 128, us 129, us 130, us 131, us 132, us 133, us 134, us 135, us 136, us 137, us 138, us 139, us 140, us 141, us 142, us 143, us 144, us 145, us 146, us 147, us 148, us 149, us 150, us 151, us 152, us 153, us 154, us 155, us 156, us 157, us 158, us 159, us 160, us 161, us 162, us 163, us 164, us 165, us 166, us 167, us 168, us 169, us 170, us 171, us 172, us 173, us 174, us 175, us 176, us 177, us 178, us 179, us 180, us 181, us 182, us 183, us 184, us 185, us 186, us 187, us 188, us 189, us 190, us 191, us 192, us 193, us 194, us 195, us 196, us 197, us 198, us 199, us 200, us 201, us 202, us 203, us 204, us 205, us 206, us 207, us 208, us 209, us 210, us 211, us 212, us 213, us 214, us 215, us 216, us 217, us 218, us 219, us 220, us 221, us 222, us 223, us 224, us 225, us 226, us 227, us 228, us 229, us 230, us 231, us 232, us 233, us 234, us 235, us 236, us 237, us 238, us 239, us 240, us 241, us 242, us 243, us 244, us 245, us 246, us 247, us 248, us 249, us 250, us 251, us 252, us 253, us 254, us 255, us 256, us 257, us 258, us 259, us 260, us 261, us 262, us 263, us 264, us 265, us 266, us 267, us 268, us 269, us 270, us 271, us 272, us 273, us 274, us 275, us 276, us 277, us 278, us 279, us 280, us 281, us 282, us 283, us 284, us 285, us 286, us 287, us 288, us 289, us 290, us 291, us 292, us 293, us 294, us 295, us 296, us 297, us 298, us 299, us 300, us 301, us 302, us 303, us 304, us 305, us 306, us 307, us 308, us 309, us 310, us 311, us 312, us 313, us 314, us 315, us 316, us 317, us 318, us 319, us 320, us 321, us 322, us 323, us 324, us 325, us 326, us 327, us 328, us 329, us 330, us 331, us 332, us 333, us 334, us 335, us 336, us 337, us 338, us 339, us 340, us 341, us 342, us 343, us 344, us 345] := rfl

theorem nn_nat (f : Nat) (n : Int) : ∃ m : Nat, IntKind.u64.wrap ((f : Int) + IntKind.u64.wrap n) = (m : Int) := by
  rw [IntKind.wrap_u64, IntKind.wrap_u64]
  exact ⟨(((f : Int) + n % 18446744073709551616) % 18446744073709551616).toNat, by omega⟩

theorem nn_in {f k m : Nat} (h : IntKind.u64.wrap ((f : Int) + IntKind.u64.wrap (k : Int)) = (m : Int)) (hk : f + k < 1000) : m = f + k := by
  rw [IntKind.wrap_u64, IntKind.wrap_u64] at h
  omega

theorem nn_out {f len m : Nat} {n : Int} (h : IntKind.u64.wrap ((f : Int) + IntKind.u64.wrap n) = (m : Int)) (hf : f + len ≤ 99) (hb : -9223372036854775808 ≤ n ∧ n ≤ 9223372036854775807) (hn : n < 0 ∨ (len : Int) < n) : m < f ∨ f + len < m := by
  rw [IntKind.wrap_u64, IntKind.wrap_u64] at h
  omega

theorem add_u64 (x y z : Int) (t : TypeId) (a b : Operand) (h : IntKind.u64.wrap (x + y) = z) (W : World) : (do eqGuard .add t a b (.int .u64 x) (.int .u64 y); binOp .add t (.int .u64 x) (.int .u64 y) : Sem Value).run Tryz.prog W = .ok (.int .u64 z) W := by
  simp [eqGuard, binOp, go_sem, h]
end Go.Proofs.YthaggdkfaglgaaaGreatDoor

