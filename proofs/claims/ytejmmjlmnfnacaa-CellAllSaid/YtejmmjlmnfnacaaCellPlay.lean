/- A run between the law's calls, step by step. -/
import Derived.Test.YtejmmjlmnfnacaaCellKeep
namespace Go.Proofs.Ytejmmjlmnfnacaa
open Go.RowKit Go.Maps DiskMath SwapMath CellMath BinMath Reg

/-- A run whose cell has h. -/
structure Play (w0 : World) (B y d : Nat) (h : Hd) (W : World) : Prop where
  ex : ∃ z x s t U, Run w0 B y d 9 z x s t false ⟨h, h, false⟩ W U ∧ Fresh qV [] s t ∧ hdOf t = h ∧ s.room = 1073741824 ∧ s.fuse = -1
/-- With a fuse. -/
structure Fused (w0 : World) (B y d : Nat) (h : Hd) (W : World) : Prop where
  ex : ∃ z x s t U, Run w0 B y d 9 z x s t false ⟨h, h, false⟩ W U ∧ Fresh qV [] s t ∧ hdOf t = h ∧ s.room = 1073741824
/-- Behind a set with a fuse. -/
structure SetDone (w0 : World) (B y d : Nat) (W : World) : Prop where
  ex : ∃ p s V T, RunD w0 B y d 12 p s V W T ∧ s.room = 1073741824 ∧ ∀ keep torn, ∃ t, Fresh qV [] (s.crash keep torn) t ∧ (hdOf t = V.has ∨ hdOf t = V.may)
/-- Behind a crash. -/
structure Crashed (w0 : World) (B y d : Nat) (hh : Hd) (W : World) : Prop where
  ex : ∃ p s t V T, RunD w0 B y d 8 p s V W T ∧ Fresh qV [] s t ∧ hdOf t = hh ∧ (hdOf t = V.has ∨ hdOf t = V.may) ∧ s.room = 1073741824 ∧ s.fuse = -1

section
variable {w0 W W' : World} {B y d : Nat} {h g hh : Hd}

theorem Play.below (hp : Play w0 B y d h W) (hb : Below W.heap.size W W') : Play w0 B y d h W' := by
  obtain ⟨z, x, s, t, U, h1, h2⟩ := hp.ex
  exact ⟨z, x, s, t, U, h1.below hb, h2⟩
theorem Fused.below (hp : Fused w0 B y d h W) (hb : Below W.heap.size W W') : Fused w0 B y d h W' := by
  obtain ⟨z, x, s, t, U, h1, h2⟩ := hp.ex
  exact ⟨z, x, s, t, U, h1.below hb, h2⟩
theorem SetDone.below (hp : SetDone w0 B y d W) (hb : Below W.heap.size W W') : SetDone w0 B y d W' := by
  obtain ⟨p, s, V, T, h1, h2⟩ := hp.ex
  exact ⟨p, s, V, T, h1.below hb, h2⟩
theorem Crashed.below (hp : Crashed w0 B y d hh W) (hb : Below W.heap.size W W') : Crashed w0 B y d hh W' := by
  obtain ⟨p, s, t, V, T, h1, h2⟩ := hp.ex
  exact ⟨p, s, t, V, T, h1.below hb, h2⟩

theorem Play.bel (hp : Play w0 B y d h W) : Below w0.heap.size w0 W := by
  obtain ⟨z, x, s, t, U, h1, h2⟩ := hp.ex
  exact h1.bel
theorem Fused.bel (hp : Fused w0 B y d h W) : Below w0.heap.size w0 W := by
  obtain ⟨z, x, s, t, U, h1, h2⟩ := hp.ex
  exact h1.bel
theorem SetDone.bel (hp : SetDone w0 B y d W) : Below w0.heap.size w0 W := by
  obtain ⟨p, s, V, T, h1, h2⟩ := hp.ex
  exact h1.bel
theorem Crashed.bel (hp : Crashed w0 B y d hh W) : Below w0.heap.size w0 W := by
  obtain ⟨p, s, t, V, T, h1, h2⟩ := hp.ex
  exact h1.bel

/-- The cells of the run that are known. -/
theorem Play.cells (hp : Play w0 B y d h W) : W.cell? ⟨B, 0, none⟩ = some (dp d) ∧ W.cell? ⟨B, 2, none⟩ = some (.pointer (some ⟨y, 0, none⟩)) := by
  obtain ⟨z, x, s, t, U, h1, h2⟩ := hp.ex
  exact ⟨by rw [h1.run.cell]; rfl, by rw [h1.run.cell]; rfl⟩
theorem Crashed.cells (hp : Crashed w0 B y d h W) : W.cell? ⟨B, 0, none⟩ = some (dp d) ∧ W.cell? ⟨B, 2, none⟩ = some (.pointer (some ⟨y, 0, none⟩)) := by
  obtain ⟨p, s, t, V, T, h1, h2⟩ := hp.ex
  exact ⟨by rw [h1.run.cell]; rfl, by rw [h1.run.cell]; rfl⟩
theorem SetDone.run (hp : SetDone w0 B y d W) : ∃ p, Blk W B 35 (runC d p y) := by
  obtain ⟨p, s, V, T, h1, h2⟩ := hp.ex
  exact ⟨p, h1.run⟩
theorem Crashed.run (hp : Crashed w0 B y d h W) : ∃ p, Blk W B 35 (runC d p y) := by
  obtain ⟨p, s, t, V, T, h1, h2⟩ := hp.ex
  exact ⟨p, h1.run⟩
theorem Play.ref (hp : Play w0 B y d h W) : Blk W y 40 (rC ⟨h, h, false⟩) := by
  obtain ⟨z, x, s, t, U, h1, h2⟩ := hp.ex
  exact h1.ref

theorem Play.crashed (hp : Play w0 B y d h W) : Crashed w0 B y d h W := by
  obtain ⟨z, x, s, t, U, h1, h2, h3, h4, h5⟩ := hp.ex
  exact ⟨_, s, t, _, U, h1.base.tight (by have := h2.1.counts; omega) (by omega), h2, h3, .inl h3, h4, h5⟩

theorem play_begin (hb : Below w0.heap.size w0 W) : Calls Try.prog 9 #[] W fun e W' => ∃ B y d, e = .returned (.pointer (some ⟨B, 0, none⟩)) ∧ Play w0 B y d (0, 0) W' := by
  refine (begin_any hb).mono ?_
  rintro e w' ⟨B, y, d, z, x, U, rfl, h1⟩
  have hi := fresh_new qV 1073741824
  exact ⟨B, y, d, rfl, z, x, St.new 1073741824, none, U, h1.tight (by have := hi.1.counts; omega) (by omega), hi, rfl, rfl, rfl⟩

theorem play_set (hp : Play w0 B y d h W) (hg : okH g) : Calls Try.prog 10 #[.pointer (some ⟨B, 0, none⟩), hv g] W fun e W' => e = .returned (.bool true) ∧ Play w0 B y d g W' := by
  obtain ⟨z, x, s, t, U, h1, h2, rfl, h3, h4⟩ := hp.ex
  refine (rset_any h1 h2.1 (by rw [h3]; decide) hg (by omega)).mono ?_
  rintro e w' ⟨rfl, s', U', r1, r2, r3⟩
  rcases r3 with ⟨q1, q2⟩ | ⟨q1, -⟩
  · exact ⟨rfl, z, x, s', _, U', q2.tight (by have := q1.1.counts; omega) (by omega), q1, hdOf_txt g hg, by rw [r1]; exact h3, r2 h4⟩
  · exact absurd h4 q1

theorem play_fuse (hp : Play w0 B y d h W) (n : Int) (hn : n ≤ 9223372036854775807) : Calls Try.prog 11 #[dp d, .int .i64 n] W fun e W' => e = .returned (.tuple #[]) ∧ Fused w0 B y d h W' := by
  obtain ⟨z, x, s, t, U, h1, h2, h3, h4, h5⟩ := hp.ex
  refine (run_fuse h1 n hn).mono ?_
  rintro e w' ⟨rfl, U', r⟩
  exact ⟨rfl, z, x, _, t, U', r, h2.fuse _, h3, h4⟩

theorem fused_set (hp : Fused w0 B y d h W) (hg : okH g) : Calls Try.prog 10 #[.pointer (some ⟨B, 0, none⟩), hv g] W fun e W' => e = .returned (.bool true) ∧ SetDone w0 B y d W' := by
  obtain ⟨z, x, s, t, U, h1, h2, rfl, h3⟩ := hp.ex
  refine (rset_any h1 h2.1 (by rw [h3]; decide) hg (by omega)).mono ?_
  rintro e w' ⟨rfl, s', U', r1, r2, r3⟩
  rcases r3 with ⟨q1, q2⟩ | ⟨-, q1, q2⟩
  · exact ⟨rfl, _, s', _, U', q2.base, by rw [r1]; exact h3, fun keep torn => ⟨_, q1.1.crash keep torn, .inl (hdOf_txt g hg)⟩⟩
  · refine ⟨rfl, _, s', _, U', q2.base, by rw [r1]; exact h3, fun keep torn => ?_⟩
    rcases q1.crash keep torn with q | q
    · exact ⟨t, q, .inl rfl⟩
    · exact ⟨_, q, .inr (hdOf_txt g hg)⟩

theorem done_crash (hp : SetDone w0 B y d W) {ka : Option Addr} {nk ck : Nat} {ks : List Bool} (torn : Int) (hk : Bls W (.slice ka nk ck) ks) (hnk : ks.length = nk) (hnk2 : nk ≤ 9223372036854775807) :
    Calls Try.prog 12 #[dp d, .slice ka nk ck, .int .i64 torn] W fun e w' => e = .returned (.tuple #[]) ∧ ∃ hh, Crashed w0 B y d hh w' := by
  obtain ⟨p, s, V, T, h1, h2, h3⟩ := hp.ex
  refine (run_crash h1 torn hk hnk hnk2).mono ?_
  rintro e w' ⟨rfl, T', r⟩
  obtain ⟨t, q1, q2⟩ := h3 ks torn
  exact ⟨rfl, hdOf t, p, _, t, V, T', r.tight (by have := q1.1.counts; omega) (by omega), q1, rfl, q2, h2, rfl⟩

theorem play_crash (hp : Play w0 B y d h W) {ka : Option Addr} {nk ck : Nat} {ks : List Bool} (torn : Int) (hk : Bls W (.slice ka nk ck) ks) (hnk : ks.length = nk) (hnk2 : nk ≤ 9223372036854775807) :
    Calls Try.prog 12 #[dp d, .slice ka nk ck, .int .i64 torn] W fun e w' => e = .returned (.tuple #[]) ∧ Crashed w0 B y d h w' := by
  obtain ⟨z, x, s, t, U, h1, h2, h3, h4, h5⟩ := hp.ex
  refine (run_crash h1.base torn hk hnk hnk2).mono ?_
  rintro e w' ⟨rfl, T', r⟩
  have q1 := h2.1.crash ks torn
  exact ⟨rfl, _, _, t, _, T', r.tight (by have := q1.1.counts; omega) (by omega), q1, h3, .inl h3, h4, rfl⟩

/-- The cell of the run. -/
theorem Play.get1 (hp : Play w0 B y d h W) : ∃ z, W.cell? ⟨B, 1, none⟩ = some (.pointer (some ⟨z, 0, none⟩)) ∧ ∀ W', Below W.heap.size W W' → Calls Try.prog 14 #[.pointer (some ⟨z, 0, none⟩)] W' fun e w' => e = .returned (hv h) ∧ Below W'.heap.size W' w' := by
  obtain ⟨z, x, s, t, U, h1, h2, rfl, h3⟩ := hp.ex
  exact ⟨z, by rw [h1.run.cell]; rfl, fun W' hb => cGet_any (h1.vault.keep hb) (h1.sw.below hb)⟩

theorem crashed_open (hp : Crashed w0 B y d hh W) {ka : Option Addr} {nk ck : Nat} {ks : List Bool} (torn : Int) (hk : Bls w0 (.slice ka nk ck) ks) (hnk : ks.length = nk) (hnk2 : nk ≤ 9223372036854775807) :
    Calls Try.prog 13 #[.pointer (some ⟨B, 0, none⟩), .slice ka nk ck, .int .i64 torn] W fun e W' => e = .returned (.bool true) ∧ Play w0 B y d hh W' := by
  obtain ⟨p, s, t, V, T, h1, h2, rfl, h3, h4, h5⟩ := hp.ex
  refine (ropen_any h1 h2 h3 torn hk hnk hnk2).mono ?_
  rintro e w' ⟨rfl, s', z, x, U, r1, r2, r3, r4, -, -⟩
  exact ⟨rfl, z, x, s', t, U, r4, r3, rfl, by rw [r1]; exact h4, r2 h5⟩
end
end Go.Proofs.Ytejmmjlmnfnacaa
