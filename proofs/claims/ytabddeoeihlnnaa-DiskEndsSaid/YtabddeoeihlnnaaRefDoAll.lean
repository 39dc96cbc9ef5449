/- The reference's Do, whatever operation. -/
import Derived.Test.YtabddeoeihlnnaaRefDoWrite
namespace Go.Proofs.Ytabddeoeihlnnaa
open Go.RowKit Go.Maps DiskMath

theorem DoEnd.like {w w' : World} {v u : Value} {G : Gf} {op op' : AOp} (h : DoEnd w v G op u w') (he : doA op (pr G) = doA op' (pr G)) : DoEnd w v G op' u w' := by
  obtain ⟨⟨G', h1, h2, h3⟩, h4⟩ := h
  exact ⟨⟨G', h1, by rw [h2, he], h3⟩, h4⟩

/-- The cells of an operation. -/
def rC (op : AOp) (v : Value) : Array Value := #[.int .i64 ((op.k : Int) + 1), nm op.n, nm op.q, .int .i64 (op.a : Int), v]

theorem dor_any {w : World} {v vb : Value} {G : Gf} {op : AOp} (h : Fls w v G) (hl : G.length ≤ 50000) (hri : Rise G) (hfit : Fit (pr G)) (ho : FitO op) (hb : Row w 0 vb op.b) :
    Calls Try.prog 51 #[v, .agg (rC op vb)] w fun e w' => ∃ u, e = .returned u ∧ DoEnd w v G op u w' := by
  obtain ⟨k, n, q, a, b⟩ := op
  obtain ⟨h0, h1, h2, h3, h4, h5, h6, h7⟩ := ho
  simp only at h0 h1 h2 h3 h4 h5 h6 h7 hb
  obtain ⟨ba, cb, rfl⟩ := slice_of_row hb
  obtain ⟨N, hN⟩ : ∃ N, nm n = .string N := ⟨_, rfl⟩
  obtain ⟨M, hM⟩ : ∃ M, nm q = .string M := ⟨_, rfl⟩
  have e : rC ⟨k, n, q, a, b⟩ (.slice ba b.length cb) = opR ((k : Int) + 1) N M (a : Int) (.slice ba b.length cb) := by
    unfold rC opR
    simp only [hN, hM]
  rw [e]
  clear e
  match k, h0, h4, h6, h7 with
  | 0, _, h4, _, _ =>
    refine (dor_write (N := N) (M := M) (n := n) h hl hN hfit (h4 rfl) hb.bys rfl h5).mono ?_
    rintro e w' ⟨u, h1, h2⟩
    exact ⟨u, h1, h2.like (by simp [doA])⟩
  | 1, _, _, h6, _ =>
    refine (dor_cut (N := N) (M := M) (n := n) h hl hN hri hfit h3).mono ?_
    rintro e w' ⟨u, h1, h2⟩
    exact ⟨u, h1, h2.like (by simp [doA])⟩
  | 2, _, _, h6, h7 =>
    obtain rfl : a = 0 := h7 (by omega)
    refine (dor_remove (N := N) (M := M) (n := n) h hl hN).mono ?_
    rintro e w' ⟨u, h1, h2⟩
    exact ⟨u, h1, h2.like (by simp [doA])⟩
  | 3, _, _, h6, h7 =>
    obtain rfl : a = 0 := h7 (by omega)
    refine (dor_rename (N := N) (M := M) (n := n) (q := q) h hl hN hM).mono ?_
    rintro e w' ⟨u, h1, h2⟩
    exact ⟨u, h1, h2.like (by simp [doA])⟩
  | k + 4, h0, _, _, _ => omega
end Go.Proofs.Ytabddeoeihlnnaa
