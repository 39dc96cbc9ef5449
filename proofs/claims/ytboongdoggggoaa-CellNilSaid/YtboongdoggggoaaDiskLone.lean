/- A disk of a law's own. -/
import Derived.Test.YtboongdoggggoaaDiskCrash
namespace Go.Proofs.Ytboongdoggggoaa
set_option maxRecDepth 20000
open Go.RowKit Go.Maps DiskMath

/-- A disk that was made since the world w. -/
def Lone (w W : World) (d c : Nat) (s : St) : Prop := ∃ T, IsDisk W T d c s ∧ (∀ k, T k → w.heap.size ≤ k) ∧ Below w.heap.size w W

theorem Lone.bel {w W : World} {d c : Nat} {s : St} (h : Lone w W d c s) : Below w.heap.size w W := by
  obtain ⟨_, _, _, h⟩ := h
  exact h

theorem Lone.below {w W W' : World} {d c : Nat} {s : St} (h : Lone w W d c s) (hb : Below W.heap.size W W') : Lone w W' d c s := by
  obtain ⟨T, h1, h2, h3⟩ := h
  exact ⟨T, h1.below hb, h2, h3.trans (hb.mono h3.size)⟩

theorem lone_next {w W W' : World} {T : Nat → Prop} {d c : Nat} {s : St} (h2 : ∀ k, T k → w.heap.size ≤ k) (h3 : Below w.heap.size w W) (hn : Next W T d c s W') : Lone w W' d c s := by
  refine ⟨_, hn.disk, fun k hk => ?_, ⟨hn.only.os.trans h3.os, hn.only.tape.trans h3.tape, hn.only.output.trans h3.output, Nat.le_trans h3.size hn.only.size, fun k hk => ?_⟩⟩
  · rcases hk with h | h
    · exact h2 k h
    · exact Nat.le_trans h3.size h.1
  · rw [hn.only.block k (Nat.lt_of_lt_of_le hk h3.size) fun hT => by have := h2 k hT; omega]
    exact h3.block k hk

theorem lnew_any (w W : World) (room : Int) (hb : Below w.heap.size w W) : Calls Try.prog 41 #[.int .i64 room] W fun e w' => ∃ d, e = .returned (dp d) ∧ Lone w w' d 0 (St.new room) := by
  refine (new_any W room).mono ?_
  rintro e w' ⟨d, rfl, h1, h2⟩
  exact ⟨d, rfl, _, h1, fun k hk => Nat.le_trans hb.size hk.1, hb.trans (h2.mono hb.size)⟩

theorem lwrite_any {w W : World} {d c : Nat} {s : St} (h : Lone w W d c s) {n : Nm} {a : Int} {ab : Option Addr} {lb cb : Nat} {b : List UInt8} (hc : c + 1 ≤ 2000) (hn : n.length ≤ 9223372036854775807) (ha : -9223372036854775808 ≤ a ∧ a ≤ 9223372036854775807)
    (hb : Bys W (.slice ab lb cb) b) (hlb : b.length = lb) (hl : lb ≤ 4194304) :
    Calls Try.prog 130 #[dp d, nm n, .int .i64 a, .slice ab lb cb] W fun e w' => e = .returned (.int .i64 ((s.write n a b).1 : Int)) ∧ Lone w w' d (c + 1) (s.write n a b).2 := by
  obtain ⟨T, h1, h2, h3⟩ := h
  exact (write_any h1 hc hn ha hb hlb hl).mono fun e w' h => ⟨h.1, lone_next h2 h3 h.2⟩

theorem lcut_any {w W : World} {d c : Nat} {s : St} (h : Lone w W d c s) {n : Nm} {k : Int} (hc : c + 1 ≤ 2000) (hn : n.length ≤ 9223372036854775807) (hk : -9223372036854775808 ≤ k ∧ k ≤ 9223372036854775807) :
    Calls Try.prog 131 #[dp d, nm n, .int .i64 k] W fun e w' => e = .returned (.int .i64 ((s.cut n k).1 : Int)) ∧ Lone w w' d (c + 1) (s.cut n k).2 := by
  obtain ⟨T, h1, h2, h3⟩ := h
  exact (cut_any h1 hc hn hk).mono fun e w' h => ⟨h.1, lone_next h2 h3 h.2⟩

theorem lremove_any {w W : World} {d c : Nat} {s : St} (h : Lone w W d c s) {n : Nm} (hc : c + 1 ≤ 2000) (hn : n.length ≤ 9223372036854775807) :
    Calls Try.prog 128 #[dp d, nm n] W fun e w' => e = .returned (.int .i64 ((s.remove n).1 : Int)) ∧ Lone w w' d (c + 1) (s.remove n).2 := by
  obtain ⟨T, h1, h2, h3⟩ := h
  exact (remove_any h1 hc hn).mono fun e w' h => ⟨h.1, lone_next h2 h3 h.2⟩

theorem lrename_any {w W : World} {d c : Nat} {s : St} (h : Lone w W d c s) {n q : Nm} (hc : c + 1 ≤ 2000) (hn : n.length ≤ 9223372036854775807) (hq : q.length ≤ 9223372036854775807) :
    Calls Try.prog 133 #[dp d, nm n, nm q] W fun e w' => e = .returned (.int .i64 ((s.rename n q).1 : Int)) ∧ Lone w w' d (c + 1) (s.rename n q).2 := by
  obtain ⟨T, h1, h2, h3⟩ := h
  exact (rename_any h1 hc hn hq).mono fun e w' h => ⟨h.1, lone_next h2 h3 h.2⟩

theorem lsync_any {w W : World} {d c : Nat} {s : St} (h : Lone w W d c s) :
    Calls Try.prog 132 #[dp d] W fun e w' => e = .returned (.int .i64 ((s.sync).1 : Int)) ∧ Lone w w' d c (s.sync).2 := by
  obtain ⟨T, h1, h2, h3⟩ := h
  exact (sync_any h1).mono fun e w' h => ⟨h.1, lone_next h2 h3 h.2⟩

theorem lread_any {w W : World} {d c : Nat} {s : St} (h : Lone w W d c s) {n : Nm} (hn : n.length ≤ 9223372036854775807) :
    Calls Try.prog 107 #[dp d, nm n] W fun e w' => ∃ v, e = .returned (.tuple #[v, .int .i64 ((s.read n).1 : Int)]) ∧ Row w' W.heap.size v (s.read n).2 ∧ Below W.heap.size W w' ∧ Lone w w' d c s := by
  have h' := h
  obtain ⟨T, h1, h2, h3⟩ := h
  refine (read_any h1 hn).mono ?_
  rintro e w' ⟨v, rfl, q1, q2⟩
  exact ⟨v, rfl, q1, q2, h'.below q2⟩

theorem ldown_any {w W : World} {d c : Nat} {s : St} (h : Lone w W d c s) : Calls Try.prog 73 #[dp d] W fun e w' => e = .returned (.bool s.off) ∧ W = w' := by
  obtain ⟨T, h1, h2, h3⟩ := h
  obtain ⟨m1, m2, F1, F2, ws, G, hd, ht⟩ := h1.ex
  exact down_any hd

theorem lfuse_any {w W : World} {d c : Nat} {s : St} (h : Lone w W d c s) (x : Int) (hx : x ≤ 9223372036854775807) : Calls Try.prog 36 #[dp d, .int .i64 x] W fun e w' => e = .returned (.tuple #[]) ∧ Lone w w' d c { s with fuse := max x (-1) } := by
  obtain ⟨T, h1, h2, h3⟩ := h
  exact (fuse_any h1 x hx).mono fun e w' h => ⟨h.1, lone_next h2 h3 h.2⟩

theorem lcrash_any {w W : World} {d c : Nat} {s : St} (h : Lone w W d c s) {ka : Option Addr} {nk ck : Nat} {ks : List Bool} {torn : Int} (hk : Bls W (.slice ka nk ck) ks) (hnk : ks.length = nk) (hnk2 : nk ≤ 9223372036854775807) :
    Calls Try.prog 37 #[dp d, .slice ka nk ck, .int .i64 torn] W fun e w' => e = .returned (.tuple #[]) ∧ Lone w w' d c (s.crash ks torn) := by
  obtain ⟨T, h1, h2, h3⟩ := h
  exact (crash_any h1 hk hnk hnk2).mono fun e w' h => ⟨h.1, lone_next h2 h3 h.2⟩
end Go.Proofs.Ytboongdoggggoaa
