/- The reference's files: a list of structs that nobody writes; find, Named, Used. -/
import Derived.Test.YtabddeoeihlnnaaDiskList
namespace Go.Proofs.Ytabddeoeihlnnaa
open Go.RowKit Go.Maps DiskMath

/-- The cells of files, two each. -/
def cellsF (G : Gf) : List Value := G.flatMap fun p => [nm p.1, p.2.1]

theorem cellsF_length (G : Gf) : (cellsF G).length = G.length * 2 := by
  induction G with
  | nil => rfl
  | cons p r ih => simp only [cellsF, List.flatMap_cons, List.length_append, List.length_cons, List.length_nil] at ih ⊢; rw [ih]; omega

theorem cellsF_at : ∀ (G : Gf) (i : Nat) (p : Nm × (Value × List UInt8)), G[i]? = some p → (cellsF G)[i * 2]? = some (nm p.1) ∧ (cellsF G)[i * 2 + 1]? = some p.2.1
  | [], i, p, h => by simp at h
  | x :: r, 0, p, h => by
    simp at h
    subst h
    exact ⟨rfl, rfl⟩
  | x :: r, i + 1, p, h => by
    have ih := cellsF_at r i p (by simpa using h)
    rw [show (i + 1) * 2 = i * 2 + 2 by omega]
    exact ih

theorem cellsF_snoc (G : Gf) (p : Nm × (Value × List UInt8)) : cellsF (G ++ [p]) = cellsF G ++ [nm p.1, p.2.1] := by simp [cellsF]

/-- A list of files: the slice, the texts. -/
structure Fls (w : World) (v : Value) (G : Gf) : Prop where
  row : w.ownsRow 0 71 2 v G.length (cellsF G)
  text : ∀ p ∈ G, Row w 0 p.2.1 p.2.2

/-- Its blocks. -/
def fk (v : Value) (G : Gf) (k : Nat) : Prop := v.ownBlock = some k ∨ foot G k

theorem Fls.lt {w : World} {v : Value} {G : Gf} (h : Fls w v G) {k : Nat} (hk : fk v G k) : k < w.heap.size := by
  rcases hk with hk | ⟨p, hp, hk⟩
  · exact (World.ownsRow.lt h.row k hk).2
  · exact ((h.text p hp).lt hk).2

theorem Fls.same {w w' : World} {v : Value} {G : Gf} (h : Fls w v G) (hs : ∀ k, fk v G k → w'.heap[k]? = w.heap[k]?) : Fls w' v G :=
  ⟨ownRow_same h.row fun k hk => hs k (.inl hk), fun p hp => (h.text p hp).same fun k hk => hs k (.inr ⟨p, hp, hk⟩)⟩

theorem Fls.below {w w' : World} {v : Value} {G : Gf} (h : Fls w v G) (hb : Below w.heap.size w w') : Fls w' v G := h.same fun k hk => hb.block k (h.lt hk)

theorem Fls.slice {w : World} {v : Value} {G : Gf} (h : Fls w v G) : ∃ a c, v = .slice a G.length c := by
  rcases h.row.2 with ⟨rfl, h0⟩ | ⟨g, cap, cur, rfl, _⟩
  · exact ⟨none, 0, by rw [h0]⟩
  · exact ⟨_, _, rfl⟩

theorem fls_nil (w : World) : Fls w (.slice none 0 0) [] := ⟨World.ownsRow_nil _ _ _ _, fun p hp => by cases hp⟩

/-- The i-th file. -/
theorem Fls.cells {w : World} {v : Value} {G : Gf} (h : Fls w v G) (i : Nat) (p : Nm × (Value × List UInt8)) (hp : G[i]? = some p) : ∃ g cap, v = .slice (some ⟨g, 0, none⟩) G.length cap ∧ g < w.heap.size ∧
    w.cell? ⟨g, i * 2, none⟩ = some (nm p.1) ∧ w.cell? ⟨g, i * 2 + 1, none⟩ = some p.2.1 := by
  have hlt := (List.getElem?_eq_some_iff.1 hp).1
  rcases h.row.2 with ⟨_, h0⟩ | ⟨g, cap, cur, rfl, _, hg, hn, hm, hs, ht⟩
  · omega
  · refine ⟨g, cap, rfl, (Array.getElem?_eq_some_iff.1 hg).1, ?_, ?_⟩
    · rw [World.ownsRow.cellAt h.row _ (by omega)]
      exact (cellsF_at G i p hp).1
    · rw [World.ownsRow.cellAt h.row _ (by omega)]
      exact (cellsF_at G i p hp).2

theorem files_index (W : World) (g n cap i : Nat) (hi : i < n) : (Instr.indexAt 62 (.slice (some ⟨g, 0, none⟩) n cap) (.int .i64 (i : Int))).run Try.prog W = .ok (.pointer (some ⟨g, i * 2, none⟩)) W := by
  have he : Try.prog.elem 62 = 71 := by kernel_rfl
  have hs : (Go.sizeOf 71).run Try.prog W = .ok 2 W := by kernel_rfl
  have ht : Try.prog.underlying 62 = some (.slice (Try.prog.elem 62)) := by rw [he]; exact Try.underlying62
  rw [run_indexAt_slice (h := ht), if_pos (by omega), he, hs]
  simp [Result.andThen, Addr.add]
  exact fun h => h.symm

theorem nm_list {n : Nm} {N : ByteArray} (h : nm n = .string N) : N.toList = n := by
  unfold nm at h
  cases h
  rw [Lib.toList_data]

/-- Where a file of that name stands; -1: nowhere. -/
def At (G : Gf) (n : Nm) (i : Int) : Prop := (i = -1 ∧ getA n G = none) ∨ ∃ (j : Nat) (x : Value × List UInt8), i = (j : Int) ∧ G[j]? = some (n, x) ∧ getA n G = some x

theorem getA_first {G : Gf} {n : Nm} {i : Nat} {x : Value × List UInt8} (h : ∀ p ∈ G.take i, p.1 ≠ n) (hi : G[i]? = some (n, x)) : getA n G = some x := by
  obtain ⟨hlt, he⟩ := List.getElem?_eq_some_iff.1 hi
  have e : G = G.take i ++ (n, x) :: G.drop (i + 1) := by
    rw [← he]
    simp
  unfold getA
  rw [e, List.find?_append, List.find?_eq_none.2 (fun p hp => by simpa using h p hp)]
  simp

set_option maxHeartbeats 1000000 in
theorem find_any {w : World} {v : Value} {G : Gf} {n : Nm} (h : Fls w v G) (hl : G.length ≤ 100000) : Calls Try.prog 39 #[v, nm n] w fun e w' => (∃ i : Int, e = .returned (.int .i64 i) ∧ At G n i) ∧ w = w' := by
  obtain ⟨va, vc, hv⟩ := h.slice
  subst hv
  obtain ⟨L, hL⟩ : ∃ L, L = G.length := ⟨_, rfl⟩
  obtain ⟨N, hN⟩ : ∃ N, nm n = .string N := ⟨_, rfl⟩
  have HF := Lib.hid h
  have HN := Lib.hid hN
  have HL := Lib.hid hL
  rw [← hL] at HF hl ⊢
  rw [hN]
  clear h hN hL
  go_enter Try.func39, Try.ntmps39
  go_wp2
  go_loop [5] (fun s5 => ∃ i : Nat, i ≤ L ∧ s5 = .int .i64 i ∧ ∀ p ∈ G.take i, p.1 ≠ n) (fun s5 => L - (intOf s5).toNat)
  case atStart => exact ⟨0, Nat.zero_le _, rfl, by simp⟩
  case round =>
    obtain ⟨i, hi, rfl, hall⟩ := hrel
    have HAll := Lib.hid hall
    clear hall
    by_cases hlt : i < L
    · have i0 : (0 : Int) ≤ (i : Int) := Int.natCast_nonneg _
      have i1 : (i : Int) < (L : Int) := by omega
      obtain ⟨p, hp⟩ : ∃ p, G[i]? = some p := ⟨G[i]'(by have := HL.out; omega), List.getElem?_eq_getElem _⟩
      have hf := HF.out
      rw [HL.out] at hf
      obtain ⟨g, cap, e, -, c0, c1⟩ := hf.cells i p hp
      simp at e
      obtain ⟨rfl, rfl⟩ := e
      have hidx : ∀ W, (Instr.indexAt 62 (.slice (some ⟨g, 0, none⟩) L vc) (.int .i64 (i : Int))).run Try.prog W = .ok (.pointer (some ⟨g, i * 2, none⟩)) W := fun W => files_index W g L vc i hlt
      obtain ⟨j, hj⟩ : ∃ j, j = i * 2 := ⟨_, rfl⟩
      rw [← hj] at c0 c1 hidx
      obtain ⟨M, hM⟩ : ∃ M, nm p.1 = .string M := ⟨_, rfl⟩
      rw [hM] at c0
      obtain ⟨q, x⟩ := p
      have HP := Lib.hid hp
      by_cases he : q = n
      · subst he
        have hMN : M = N := by
          have h := hM.symm.trans HN.out
          simpa using h
        subst hMN
        clear hf hj hM c1 hp
        go_wp2
        go_ret
        exact ⟨⟨_, rfl, .inr ⟨i, x, rfl, HP.out, getA_first HAll.out HP.out⟩⟩, rfl⟩
      · have hMN : (M.toList == N.toList) = false := by
          rw [nm_list hM, nm_list HN.out]
          simpa using he
        have hstep : ∀ r ∈ G.take (i + 1), r.1 ≠ n := fun r hr => by
          rw [List.take_add_one, HP.out] at hr
          rcases List.mem_append.1 hr with hr | hr
          · exact HAll.out r hr
          · simp at hr
            rw [hr]
            exact he
        have HStep := Lib.hid hstep
        clear hf hj hM c1 hp hstep
        go_wp2
        refine ⟨⟨i + 1, by omega, by go_num, HStep.out⟩, by simp [intOf]; omega⟩
    · obtain rfl : i = L := by omega
      go_wp2
      go_ret
      refine ⟨⟨-1, rfl, .inl ⟨rfl, ?_⟩⟩, rfl⟩
      refine getA_none_of fun p hp => HAll.out p ?_
      rw [List.take_of_length_le (by have := HL.out; omega)]
      exact hp
end Go.Proofs.Ytabddeoeihlnnaa
