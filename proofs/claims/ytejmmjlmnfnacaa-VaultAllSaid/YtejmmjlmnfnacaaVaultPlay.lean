/- A run between the law's calls, step by step. -/
import Derived.Test.YtejmmjlmnfnacaaVaultRopen
import Derived.Test.YtejmmjlmnfnacaaVaultNil
namespace Go.Proofs.Ytejmmjlmnfnacaa
open Go.RowKit Go.Maps DiskMath SwapMath Reg

/-- A run whose vault has t. -/
structure Live (w0 : World) (B y d : Nat) (t : Tx) (W : World) : Prop where
  ex : ∃ z x s U, Run w0 B y d 9 z x s t false ⟨t, t, false⟩ W U ∧ Fresh qS [] s t ∧ s.room = 1073741824
/-- And no fuse. -/
structure Play (w0 : World) (B y d : Nat) (t : Tx) (W : World) : Prop where
  ex : ∃ z x s U, Run w0 B y d 9 z x s t false ⟨t, t, false⟩ W U ∧ Fresh qS [] s t ∧ s.room = 1073741824 ∧ s.fuse = -1
/-- Behind a put with a fuse. -/
structure PutDone (w0 : World) (B y d : Nat) (W : World) : Prop where
  ex : ∃ p s V T, RunD w0 B y d 12 p s V W T ∧ s.room = 1073741824 ∧ ∀ keep torn, ∃ hh, Fresh qS [] (s.crash keep torn) hh ∧ (hh = V.has ∨ hh = V.may)
/-- Behind a crash. -/
structure Crashed (w0 : World) (B y d : Nat) (hh : Tx) (W : World) : Prop where
  ex : ∃ p s V T, RunD w0 B y d 8 p s V W T ∧ Fresh qS [] s hh ∧ (hh = V.has ∨ hh = V.may) ∧ s.room = 1073741824

section
variable {w0 W W' : World} {B y d : Nat} {t hh : Tx} {b : List UInt8}

theorem Play.live (hp : Play w0 B y d t W) : Live w0 B y d t W := by
  obtain ⟨z, x, s, U, h1, h2, h3, h4⟩ := hp.ex
  exact ⟨z, x, s, U, h1, h2, h3⟩
theorem Play.below (hp : Play w0 B y d t W) (hb : Below W.heap.size W W') : Play w0 B y d t W' := by
  obtain ⟨z, x, s, U, h1, h2⟩ := hp.ex
  exact ⟨z, x, s, U, h1.below hb, h2⟩
theorem Live.below (hp : Live w0 B y d t W) (hb : Below W.heap.size W W') : Live w0 B y d t W' := by
  obtain ⟨z, x, s, U, h1, h2⟩ := hp.ex
  exact ⟨z, x, s, U, h1.below hb, h2⟩
theorem PutDone.below (hp : PutDone w0 B y d W) (hb : Below W.heap.size W W') : PutDone w0 B y d W' := by
  obtain ⟨p, s, V, T, h1, h2⟩ := hp.ex
  exact ⟨p, s, V, T, h1.below hb, h2⟩
theorem Crashed.below (hp : Crashed w0 B y d hh W) (hb : Below W.heap.size W W') : Crashed w0 B y d hh W' := by
  obtain ⟨p, s, V, T, h1, h2⟩ := hp.ex
  exact ⟨p, s, V, T, h1.below hb, h2⟩

theorem Live.bel (hp : Live w0 B y d t W) : Below w0.heap.size w0 W := by
  obtain ⟨z, x, s, U, h1, h2⟩ := hp.ex
  exact h1.bel
theorem Play.bel (hp : Play w0 B y d t W) : Below w0.heap.size w0 W := hp.live.bel
theorem PutDone.bel (hp : PutDone w0 B y d W) : Below w0.heap.size w0 W := by
  obtain ⟨p, s, V, T, h1, h2⟩ := hp.ex
  exact h1.bel
theorem Crashed.bel (hp : Crashed w0 B y d hh W) : Below w0.heap.size w0 W := by
  obtain ⟨p, s, V, T, h1, h2⟩ := hp.ex
  exact h1.bel

/-- The cells of the run that are known. -/
theorem Live.run (hp : Live w0 B y d t W) : ∃ p, Blk W B 57 (runC d p y) := by
  obtain ⟨z, x, s, U, h1, h2⟩ := hp.ex
  exact ⟨_, h1.run⟩
theorem PutDone.run (hp : PutDone w0 B y d W) : ∃ p, Blk W B 57 (runC d p y) := by
  obtain ⟨p, s, V, T, h1, h2⟩ := hp.ex
  exact ⟨p, h1.run⟩
theorem Crashed.run (hp : Crashed w0 B y d hh W) : ∃ p, Blk W B 57 (runC d p y) := by
  obtain ⟨p, s, V, T, h1, h2⟩ := hp.ex
  exact ⟨p, h1.run⟩
theorem Live.ref (hp : Live w0 B y d t W) : Blk W y 61 (rC ⟨t, t, false⟩) := by
  obtain ⟨z, x, s, U, h1, h2⟩ := hp.ex
  exact h1.ref
/-- The vault of the run, what it has. -/
theorem Live.vault (hp : Live w0 B y d t W) : ∃ z, W.cell? ⟨B, 1, none⟩ = some (.pointer (some ⟨z, 0, none⟩)) ∧ ∀ W', Below W.heap.size W W' → Calls Try.prog 23 #[.pointer (some ⟨z, 0, none⟩)] W' fun e w' => e = .returned (tv t) ∧ Below W'.heap.size W' w' := by
  obtain ⟨z, x, s, U, h1, h2⟩ := hp.ex
  exact ⟨z, by rw [h1.run.cell]; rfl, fun W' hb => text_any (h1.vault.keep hb) (h1.sw.below hb)⟩

theorem Live.crashed (hp : Live w0 B y d t W) : Crashed w0 B y d t W := by
  obtain ⟨z, x, s, U, h1, h2, h3⟩ := hp.ex
  exact ⟨_, s, _, U, h1.base.tight (by have := h2.1.counts; omega) (by omega), h2, .inl rfl, h3⟩

theorem play_begin (hb : Below w0.heap.size w0 W) : Calls Try.prog 20 #[] W fun e W' => ∃ B y d, e = .returned (.pointer (some ⟨B, 0, none⟩)) ∧ Play w0 B y d none W' := by
  refine (begin_any hb).mono ?_
  rintro e w' ⟨B, y, d, z, x, U, rfl, h1⟩
  have hi := fresh_new qS 1073741824
  exact ⟨B, y, d, rfl, z, x, St.new 1073741824, U, h1.tight (by have := hi.1.counts; omega) (by omega), hi, rfl, rfl⟩

theorem args_off {U : Nat → Prop} {ta : Option Addr} {tn tc : Nat} (hb : Bys w0 (.slice ta tn tc) b) (haU : ∀ k, U k → w0.heap.size ≤ k) (hbel : Below w0.heap.size w0 W) : b ≠ [] → ∀ ad, ta = some ad → ad.block < W.heap.size ∧ ¬ U ad.block := fun hne ad e => by
  subst e
  have h1 := bys_block hb hne
  exact ⟨by have := hbel.size; omega, fun h => by have := haU _ h; omega⟩

theorem play_put {ta : Option Addr} {tn tc : Nat} (hp : Play w0 B y d t W) (hb : Bys w0 (.slice ta tn tc) b) (hn : b.length = tn) (hl : tn ≤ 3000) : Calls Try.prog 21 #[.pointer (some ⟨B, 0, none⟩), .slice ta tn tc] W fun e W' => e = .returned (.bool true) ∧ Play w0 B y d (some b) W' := by
  obtain ⟨z, x, s, U, h1, h2, h3, h4⟩ := hp.ex
  refine (rput_any h1 h2.1 (by rw [h3]; decide) (hb.below (Nat.le_refl _) h1.bel) hn (by omega) (args_off hb h1.aU h1.bel) (by omega)).mono ?_
  rintro e w' ⟨rfl, s', U', r1, r2, -, -, r3⟩
  rcases r3 with ⟨q1, -, -⟩ | ⟨-, q1, q2⟩ | ⟨-, q1, -⟩
  · omega
  · exact ⟨rfl, z, x, s', U', q2.tight (by have := q1.1.counts; omega) (by omega), q1, by rw [r1]; exact h3, r2 h4⟩
  · exact absurd h4 q1

theorem live_fuse (hp : Live w0 B y d t W) (n : Int) (hn : n ≤ 9223372036854775807) : Calls Try.prog 11 #[dp d, .int .i64 n] W fun e W' => e = .returned (.tuple #[]) ∧ Live w0 B y d t W' := by
  obtain ⟨z, x, s, U, h1, h2, h3⟩ := hp.ex
  refine (run_fuse h1 n hn).mono ?_
  rintro e w' ⟨rfl, U', r⟩
  exact ⟨rfl, z, x, _, U', r, h2.fuse _, h3⟩

theorem live_calm (hp : Live w0 B y d t W) : Calls Try.prog 11 #[dp d, .int .i64 (-1)] W fun e W' => e = .returned (.tuple #[]) ∧ Play w0 B y d t W' := by
  obtain ⟨z, x, s, U, h1, h2, h3⟩ := hp.ex
  refine (run_fuse h1 (-1) (by omega)).mono ?_
  rintro e w' ⟨rfl, U', r⟩
  exact ⟨rfl, z, x, _, U', r, h2.fuse _, h3, rfl⟩

theorem live_put {ta : Option Addr} {tn tc : Nat} (hp : Live w0 B y d t W) (hb : Bys w0 (.slice ta tn tc) b) (hn : b.length = tn) (hl : tn ≤ 3000) : Calls Try.prog 21 #[.pointer (some ⟨B, 0, none⟩), .slice ta tn tc] W fun e W' => e = .returned (.bool true) ∧ PutDone w0 B y d W' := by
  obtain ⟨z, x, s, U, h1, h2, h3⟩ := hp.ex
  refine (rput_any h1 h2.1 (by rw [h3]; decide) (hb.below (Nat.le_refl _) h1.bel) hn (by omega) (args_off hb h1.aU h1.bel) (by omega)).mono ?_
  rintro e w' ⟨rfl, s', U', r1, r2, -, -, r3⟩
  rcases r3 with ⟨q1, -, -⟩ | ⟨-, q1, q2⟩ | ⟨-, -, q1, q2⟩
  · omega
  · exact ⟨rfl, _, s', _, _, q2.base, by rw [r1]; exact h3, fun keep torn => ⟨some b, q1.1.crash keep torn, .inl rfl⟩⟩
  · refine ⟨rfl, _, s', _, _, q2.base, by rw [r1]; exact h3, fun keep torn => ?_⟩
    rcases q1.crash keep torn with q | q
    · exact ⟨t, q, .inl rfl⟩
    · exact ⟨some b, q, .inr rfl⟩

theorem done_crash (hp : PutDone w0 B y d W) {ka : Option Addr} {nk ck : Nat} {ks : List Bool} (torn : Int) (hk : Bls w0 (.slice ka nk ck) ks) (hnk : ks.length = nk) (hnk2 : nk ≤ 9223372036854775807) :
    Calls Try.prog 12 #[dp d, .slice ka nk ck, .int .i64 torn] W fun e w' => e = .returned (.tuple #[]) ∧ ∃ hh, Crashed w0 B y d hh w' := by
  obtain ⟨p, s, V, T, h1, h2, h3⟩ := hp.ex
  refine (run_crash h1 torn (hk.below h1.bel) hnk hnk2).mono ?_
  rintro e w' ⟨rfl, T', r⟩
  obtain ⟨hh, q1, q2⟩ := h3 ks torn
  exact ⟨rfl, hh, p, _, V, T', r.tight (by have := q1.1.counts; omega) (by omega), q1, q2, h2⟩

theorem live_crash (hp : Live w0 B y d t W) {ka : Option Addr} {nk ck : Nat} {ks : List Bool} (torn : Int) (hk : Bls w0 (.slice ka nk ck) ks) (hnk : ks.length = nk) (hnk2 : nk ≤ 9223372036854775807) :
    Calls Try.prog 12 #[dp d, .slice ka nk ck, .int .i64 torn] W fun e w' => e = .returned (.tuple #[]) ∧ Crashed w0 B y d t w' := by
  obtain ⟨z, x, s, U, h1, h2, h3⟩ := hp.ex
  refine (run_crash h1.base torn (hk.below h1.bel) hnk hnk2).mono ?_
  rintro e w' ⟨rfl, T', r⟩
  have q1 := h2.1.crash ks torn
  exact ⟨rfl, _, _, _, T', r.tight (by have := q1.1.counts; omega) (by omega), q1, .inl rfl, h3⟩

theorem crashed_fuse (hp : Crashed w0 B y d hh W) (n : Int) (hn : n ≤ 9223372036854775807) : Calls Try.prog 11 #[dp d, .int .i64 n] W fun e W' => e = .returned (.tuple #[]) ∧ Crashed w0 B y d hh W' := by
  obtain ⟨p, s, V, T, h1, h2, h3, h4⟩ := hp.ex
  refine (rund_fuse h1 n hn).mono ?_
  rintro e w' ⟨rfl, T', r⟩
  exact ⟨rfl, p, _, V, T', r, h2.fuse _, h3, h4⟩

theorem crashed_open (hp : Crashed w0 B y d hh W) {ka : Option Addr} {nk ck : Nat} {ks : List Bool} (torn : Int) (hk : Bls w0 (.slice ka nk ck) ks) (hnk : ks.length = nk) (hnk2 : nk ≤ 9223372036854775807) :
    Calls Try.prog 22 #[.pointer (some ⟨B, 0, none⟩), .slice ka nk ck, .int .i64 torn] W fun e W' => e = .returned (.bool true) ∧ Live w0 B y d hh W' := by
  obtain ⟨p, s, V, T, h1, h2, h3, h4⟩ := hp.ex
  refine (ropen_any h1 h2 h3 torn hk hnk hnk2).mono ?_
  rintro e w' ⟨rfl, s', z, x, U, r1, r2, r3, r4, -, -⟩
  exact ⟨rfl, z, x, s', U, r4, r3, by rw [r1]; exact h4⟩
end
end Go.Proofs.Ytejmmjlmnfnacaa
