/- A run as CellAll plays it: what each of its steps leaves. -/
import Derived.Test.YthlnhphmbjkjkaaCellKeep
namespace Go.Proofs.Ythlnhphmbjkjkaa
open Go.RowKit Go.Maps DiskMath CellMath BinMath Reg

/-- A run between calls: its cell has h. -/
structure Play (w0 : World) (B y d : Nat) (h : Hd) (W : World) : Prop where
  ex : ∃ x s T, Run w0 B y d 4 x s h false ⟨h, h, false⟩ W T ∧ Idle qV s h ∧ s.room = 1073741824 ∧ s.fuse = -1

/-- The same, with a fuse. -/
structure Fused (w0 : World) (B y d : Nat) (h : Hd) (W : World) : Prop where
  ex : ∃ x s T, Run w0 B y d 4 x s h false ⟨h, h, false⟩ W T ∧ Idle qV s h ∧ s.room = 1073741824

/-- A Set was answered: whatever a crash keeps, one of the two is there. -/
structure SetDone (w0 : World) (B y d : Nat) (W : World) : Prop where
  ex : ∃ p s V T, RunD w0 B y d 6 p s V W T ∧ s.room = 1073741824 ∧ ∀ keep torn, ∃ hh, Idle qV (s.crash keep torn) hh ∧ (hh = V.has ∨ hh = V.may)

/-- Behind a crash: the disk tells hh. -/
structure Crashed (w0 : World) (B y d : Nat) (hh : Hd) (W : World) : Prop where
  ex : ∃ p s V T, RunD w0 B y d 6 p s V W T ∧ Idle qV s hh ∧ (hh = V.has ∨ hh = V.may) ∧ s.room = 1073741824 ∧ s.fuse = -1

section
variable {w0 W W' : World} {B y d : Nat} {h g hh : Hd}

theorem Play.below (hp : Play w0 B y d h W) (hb : Below W.heap.size W W') : Play w0 B y d h W' := by
  obtain ⟨x, s, T, h1, h2⟩ := hp.ex
  exact ⟨x, s, T, h1.below hb, h2⟩
theorem Fused.below (hp : Fused w0 B y d h W) (hb : Below W.heap.size W W') : Fused w0 B y d h W' := by
  obtain ⟨x, s, T, h1, h2⟩ := hp.ex
  exact ⟨x, s, T, h1.below hb, h2⟩
theorem SetDone.below (hp : SetDone w0 B y d W) (hb : Below W.heap.size W W') : SetDone w0 B y d W' := by
  obtain ⟨p, s, V, T, h1, h2⟩ := hp.ex
  exact ⟨p, s, V, T, h1.below hb, h2⟩
theorem Crashed.below (hp : Crashed w0 B y d hh W) (hb : Below W.heap.size W W') : Crashed w0 B y d hh W' := by
  obtain ⟨p, s, V, T, h1, h2⟩ := hp.ex
  exact ⟨p, s, V, T, h1.below hb, h2⟩

theorem Play.bel (hp : Play w0 B y d h W) : Below w0.heap.size w0 W := by
  obtain ⟨x, s, T, h1, h2⟩ := hp.ex
  exact h1.base.bel
theorem Fused.bel (hp : Fused w0 B y d h W) : Below w0.heap.size w0 W := by
  obtain ⟨x, s, T, h1, h2⟩ := hp.ex
  exact h1.base.bel
theorem SetDone.bel (hp : SetDone w0 B y d W) : Below w0.heap.size w0 W := by
  obtain ⟨p, s, V, T, h1, h2⟩ := hp.ex
  exact h1.bel
theorem Crashed.bel (hp : Crashed w0 B y d hh W) : Below w0.heap.size w0 W := by
  obtain ⟨p, s, V, T, h1, h2⟩ := hp.ex
  exact h1.bel

/-- The cells of the run that are known. -/
theorem Play.cells (hp : Play w0 B y d h W) : W.cell? ⟨B, 0, none⟩ = some (dp d) ∧ W.cell? ⟨B, 2, none⟩ = some (.pointer (some ⟨y, 0, none⟩)) := by
  obtain ⟨x, s, T, h1, h2⟩ := hp.ex
  exact ⟨by rw [h1.base.run.cell]; rfl, by rw [h1.base.run.cell]; rfl⟩
theorem Crashed.cells (hp : Crashed w0 B y d h W) : W.cell? ⟨B, 0, none⟩ = some (dp d) ∧ W.cell? ⟨B, 2, none⟩ = some (.pointer (some ⟨y, 0, none⟩)) := by
  obtain ⟨p, s, V, T, h1, h2⟩ := hp.ex
  exact ⟨by rw [h1.run.cell]; rfl, by rw [h1.run.cell]; rfl⟩
theorem SetDone.run (hp : SetDone w0 B y d W) : ∃ p, Blk W B 35 (runC d p y) := by
  obtain ⟨p, s, V, T, h1, h2⟩ := hp.ex
  exact ⟨p, h1.run⟩
theorem Crashed.run (hp : Crashed w0 B y d h W) : ∃ p, Blk W B 35 (runC d p y) := by
  obtain ⟨p, s, V, T, h1, h2⟩ := hp.ex
  exact ⟨p, h1.run⟩
theorem Play.ref (hp : Play w0 B y d h W) : Blk W y 40 (rC ⟨h, h, false⟩) := by
  obtain ⟨x, s, T, h1, h2⟩ := hp.ex
  exact h1.base.ref

theorem idle_few {s : St} (hi : Idle qV s h) {n : Nat} (hn : 2 ≤ n) : s.sure.length + s.ops.length ≤ n := by
  have h1 := hi.may.few
  rw [hi.sure, hi.ops]
  simp
  omega

theorem Play.crashed (hp : Play w0 B y d h W) : Crashed w0 B y d h W := by
  obtain ⟨x, s, T, h1, h2, h3, h4⟩ := hp.ex
  exact ⟨_, s, _, T, h1.base.tight (idle_few h2 (by omega)) (by omega), h2, .inl rfl, h3, h4⟩

theorem play_begin (hb : Below w0.heap.size w0 W) : Calls Try.prog 6 #[] W fun e W' => ∃ B y d, e = .returned (.pointer (some ⟨B, 0, none⟩)) ∧ Play w0 B y d (0, 0) W' := by
  refine (begin_any hb).mono ?_
  rintro e w' ⟨B, y, d, x, T, rfl, h1⟩
  have hi := idle_new qV 1073741824
  exact ⟨B, y, d, rfl, x, St.new 1073741824, T, ⟨h1.base.tight (idle_few hi (by omega)) (by omega), h1.cell, h1.nx, h1.ax⟩, hi, rfl, rfl⟩

theorem play_set (hp : Play w0 B y d h W) (hg : okH g) : Calls Try.prog 7 #[.pointer (some ⟨B, 0, none⟩), hv g] W fun e W' => e = .returned (.bool true) ∧ Play w0 B y d g W' := by
  obtain ⟨x, s, T, h1, h2, h3, h4⟩ := hp.ex
  refine (rset_any h1 h2 (by rw [h3]; decide) hg (by omega)).mono ?_
  rintro e w' ⟨rfl, s', T', r1, r2, r3⟩
  rcases r3 with ⟨q1, q2⟩ | ⟨q1, -⟩
  · exact ⟨rfl, x, s', T', ⟨q2.base.tight (idle_few q1 (by omega)) (by omega), q2.cell, q2.nx, q2.ax⟩, q1, by rw [r1]; exact h3, r2 h4⟩
  · exact absurd h4 q1

theorem play_fuse (hp : Play w0 B y d h W) (n : Int) (hn : n ≤ 9223372036854775807) : Calls Try.prog 8 #[dp d, .int .i64 n] W fun e W' => e = .returned (.tuple #[]) ∧ Fused w0 B y d h W' := by
  obtain ⟨x, s, T, h1, h2, h3, h4⟩ := hp.ex
  refine (run_fuse h1 n hn).mono ?_
  rintro e w' ⟨rfl, T', r⟩
  exact ⟨rfl, x, _, T', r, h2.fuse _, h3⟩

theorem fused_set (hp : Fused w0 B y d h W) (hg : okH g) : Calls Try.prog 7 #[.pointer (some ⟨B, 0, none⟩), hv g] W fun e W' => e = .returned (.bool true) ∧ SetDone w0 B y d W' := by
  obtain ⟨x, s, T, h1, h2, h3⟩ := hp.ex
  refine (rset_any h1 h2 (by rw [h3]; decide) hg (by omega)).mono ?_
  rintro e w' ⟨rfl, s', T', r1, r2, r3⟩
  rcases r3 with ⟨q1, q2⟩ | ⟨-, q1, q2⟩
  · exact ⟨rfl, _, s', _, T', q2.base, by rw [r1]; exact h3, fun keep torn => ⟨g, q1.crash keep torn, .inl rfl⟩⟩
  · refine ⟨rfl, _, s', _, T', q2.base, by rw [r1]; exact h3, fun keep torn => ?_⟩
    rcases q1.crash keep torn with q | q
    · exact ⟨h, q, .inl rfl⟩
    · exact ⟨g, q, .inr rfl⟩

theorem done_crash (hp : SetDone w0 B y d W) {ka : Option Addr} {nk ck : Nat} {ks : List Bool} (torn : Int) (hk : Bls W (.slice ka nk ck) ks) (hnk : ks.length = nk) (hnk2 : nk ≤ 9223372036854775807) :
    Calls Try.prog 9 #[dp d, .slice ka nk ck, .int .i64 torn] W fun e w' => e = .returned (.tuple #[]) ∧ ∃ hh, Crashed w0 B y d hh w' := by
  obtain ⟨p, s, V, T, h1, h2, h3⟩ := hp.ex
  refine (run_crash h1 torn hk hnk hnk2).mono ?_
  rintro e w' ⟨rfl, T', r⟩
  obtain ⟨hh, q1, q2⟩ := h3 ks torn
  exact ⟨rfl, hh, p, _, V, T', r, q1, q2, h2, rfl⟩

theorem play_crash (hp : Play w0 B y d h W) {ka : Option Addr} {nk ck : Nat} {ks : List Bool} (torn : Int) (hk : Bls W (.slice ka nk ck) ks) (hnk : ks.length = nk) (hnk2 : nk ≤ 9223372036854775807) :
    Calls Try.prog 9 #[dp d, .slice ka nk ck, .int .i64 torn] W fun e w' => e = .returned (.tuple #[]) ∧ Crashed w0 B y d h w' := by
  obtain ⟨p, s, V, T, h1, h2, h3, h4, h5⟩ := hp.crashed.ex
  refine (run_crash h1 torn hk hnk hnk2).mono ?_
  rintro e w' ⟨rfl, T', r⟩
  exact ⟨rfl, p, _, V, T', r, h2.crash ks torn, h3, h4, rfl⟩

/-- The cell of the run. -/
theorem Play.get1 (hp : Play w0 B y d h W) : ∃ z, W.cell? ⟨B, 1, none⟩ = some (.pointer (some ⟨z, 0, none⟩)) ∧ IsCell W z d qV h false := by
  obtain ⟨x, s, T, h1, h2⟩ := hp.ex
  exact ⟨x, by rw [h1.base.run.cell]; rfl, h1.cell⟩

theorem crashed_open (hp : Crashed w0 B y d hh W) (ka : Option Addr) (nk ck : Nat) (torn : Int) :
    Calls Try.prog 10 #[.pointer (some ⟨B, 0, none⟩), .slice ka nk ck, .int .i64 torn] W fun e W' => e = .returned (.bool true) ∧ Play w0 B y d hh W' ∧ ∀ z g, IsCell W z d qV g false → IsCell W' z d qV g false := by
  obtain ⟨p, s, V, T, h1, h2, h3, h4, h5⟩ := hp.ex
  refine (ropen_any h1 h2 h3 ka nk ck torn).mono ?_
  rintro e w' ⟨rfl, ⟨x, T', r⟩, ho⟩
  refine ⟨rfl, ⟨x, s, T', ⟨r.base.tight (idle_few h2 (by omega)) (by omega), r.cell, r.nx, r.ax⟩, h2, h4, h5⟩, fun z g hz => ?_⟩
  have n1 := blk_types hz h1.run (by decide)
  have n2 := blk_types hz h1.ref (by decide)
  exact hz.same (ho.block z hz.lt fun h => h.elim n1 n2)
end
end Go.Proofs.Ythlnhphmbjkjkaa
