/- The reference's without. -/
import Derived.Test.YtabddeoeihlnnaaRefUsed
import Derived.Test.YtabddeoeihlnnaaRefNamed
namespace Go.Proofs.Ytabddeoeihlnnaa
open Go.RowKit Go.Maps DiskMath

theorem info_file : (Try.prog.info? 71).map (fun i => (i.zero, i.size, i.bytes)) = some (some (.agg #[.string ⟨#[]⟩, .slice none 0 0]), 2, 40) := by kernel_rfl

/-- append(out, file). -/
theorem add_file {W : World} {ws : Value} {n : Nat} {xs : List Value} (h : W.ownsRow 0 71 2 ws n xs) (hn : n ≤ 100000) {x : Nat} {cs : Array Value} (hx : Blk W x 71 cs) (hl : cs.size = 2) (h1 : ∀ u ∈ cs.toList, u.oneCell' = true) :
    ∃ v' w', (Builtin.append_ #[62, 62] 62 #[ws, .slice (some ⟨x, 0, none⟩) 1 1]).run Try.prog W = .ok v' w' ∧
      (w'.ownsRow 0 71 2 v' (n + 1) (xs ++ cs.toList) ∧ w'.ownsRow 0 71 2 ws n xs ∧ OnlyS (fun k => ws.ownBlock = some k) W w' ∧ Near W ws v') := by
  obtain ⟨i0, hi, hz0, hz1, hz2⟩ := info_parts info_file
  exact append_one W 62 62 71 i0 (.agg #[.string ⟨#[]⟩, .slice none 0 0]) 2 40 Try.underlying62 hi hz0 hz1 hz2 rfl (by decide) ws n xs h x cs hx hl h1 hn (by omega)

theorem one_file (N : ByteArray) (a : Option Addr) (n c : Nat) : ∀ u ∈ (#[Value.string N, .slice a n c] : Array Value).toList, u.oneCell' = true := by
  intro u hu
  simp at hu
  rcases hu with rfl | rfl <;> rfl

theorem del_snoc {G : Gf} {n : Nm} {i : Nat} {p : Nm × (Value × List UInt8)} (h : G[i]? = some p) : delA n (G.take (i + 1)) = delA n (G.take i) ++ (if p.1 = n then [] else [p]) := by
  rw [List.take_add_one, h]
  unfold delA
  rw [List.filter_append]
  by_cases hp : p.1 = n <;> simp [hp]

theorem fls_row_slice {w : World} {v : Value} {G : Gf} (h : w.ownsRow 0 71 2 v G.length (cellsF G)) : ∃ a c, v = .slice a G.length c := by
  rcases h.2 with ⟨rfl, h0⟩ | ⟨g, cap, cur, rfl, _⟩
  · exact ⟨none, 0, by rw [h0]⟩
  · exact ⟨_, _, rfl⟩

/-- How a list that a call made is. -/
structure Made (w : World) (v : Value) (G : Gf) (w' : World) : Prop where
  row : w'.ownsRow 0 71 2 v G.length (cellsF G)
  new : ∀ k, v.ownBlock = some k → w.heap.size ≤ k
  bel : Below w.heap.size w w'

theorem Made.alloc {w W : World} {v : Value} {G : Gf} (h : Made w v G W) (o : Obj) : Made w v G (W.alloc o) :=
  ⟨ownRow_same h.row fun k hk => Below.heap_alloc _ _ _ (World.ownsRow.lt h.row k hk).2, h.new, h.bel.alloc h.bel.size _⟩

set_option maxHeartbeats 1000000 in
theorem without_any {w : World} {v : Value} {G : Gf} {n : Nm} (h : Fls w v G) (hl : G.length ≤ 100000) : Calls Try.prog 59 #[v, nm n] w fun e w' => ∃ u, e = .returned u ∧ Made w u (delA n G) w' := by
  obtain ⟨va, vc, hv⟩ := h.slice
  subst hv
  obtain ⟨L, hL⟩ : ∃ L, L = G.length := ⟨_, rfl⟩
  obtain ⟨N, hN⟩ : ∃ N, nm n = .string N := ⟨_, rfl⟩
  have HF := Lib.hid h
  have HN := Lib.hid hN
  have HL := Lib.hid hL
  rw [← hL] at HF hl ⊢
  rw [hN]
  clear h hN hL
  go_enter Try.func59, Try.ntmps59
  go_wp2
  go_loopw [5, 6] (fun s5 s6 wr => ∃ i : Nat, i ≤ L ∧ s6 = .int .i64 i ∧ Hid (Made w s5 (delA n (G.take i)) wr)) (fun _ s6 _ => L - (intOf s6).toNat)
  case atStart => exact ⟨0, Nat.zero_le _, rfl, Lib.hid ⟨World.ownsRow_nil _ _ _ _, fun k hk => by simp [Value.ownBlock] at hk, Below.refl _ _⟩⟩
  case round =>
    obtain ⟨i, hi, rfl, HM⟩ := hrel
    by_cases hlt : i < L
    · have i0 : (0 : Int) ≤ (i : Int) := Int.natCast_nonneg _
      have i1 : (i : Int) < (L : Int) := by omega
      obtain ⟨p, hp⟩ : ∃ p, G[i]? = some p := ⟨G[i]'(by have := HL.out; omega), List.getElem?_eq_getElem _⟩
      have hf := HF.out
      rw [HL.out] at hf
      obtain ⟨g, cap, e, -, c0, c1⟩ := (hf.below HM.out.bel).cells i p hp
      simp at e
      obtain ⟨rfl, rfl⟩ := e
      have hidx : ∀ W, (Instr.indexAt 62 (.slice (some ⟨g, 0, none⟩) L vc) (.int .i64 (i : Int))).run Try.prog W = .ok (.pointer (some ⟨g, i * 2, none⟩)) W := fun W => files_index W g L vc i hlt
      obtain ⟨j, hj⟩ : ∃ j, j = i * 2 := ⟨_, rfl⟩
      rw [← hj] at c0 c1 hidx
      obtain ⟨M, hM⟩ : ∃ M, nm p.1 = .string M := ⟨_, rfl⟩
      rw [hM] at c0
      obtain ⟨ta, tc, hsl⟩ := slice_of_row (hf.text p (List.mem_of_getElem? hp))
      rw [hsl] at c1
      obtain ⟨k, hk⟩ : ∃ k, k = p.2.2.length := ⟨_, rfl⟩
      rw [← hk] at c1 hsl
      have hsn := del_snoc (n := n) hp
      have HCel : Hid ([nm p.1, p.2.1] = [Value.string M, .slice ta k tc]) := Lib.hid (by rw [hM, hsl])
      have hdl : (delA n (G.take i)).length ≤ 100000 := Nat.le_trans length_del (by rw [List.length_take]; omega)
      have HDl := Lib.hid hdl
      by_cases he : p.1 = n
      · rw [if_pos he, List.append_nil] at hsn
        have HSn := Lib.hid hsn
        have hMN : (M.toList == N.toList) = true := by
          rw [nm_list hM, nm_list HN.out]
          simpa using he
        clear hf hj hM c1 hp hsn hsl hk hdl he
        go_wp2
        go_roundw
        case rel => exact ⟨i + 1, by omega, by go_num, by rw [HSn.out]; exact HM⟩
        case measure => simp [intOf]; omega
      · rw [if_neg he] at hsn
        have HSn := Lib.hid hsn
        have hMN : (M.toList == N.toList) = false := by
          rw [nm_list hM, nm_list HN.out]
          simpa using he
        clear hf hj hM hp hsn hsl hk hdl he
        have A1 := Lib.hid (add_file (HM.out.alloc (.cells #[.string M, .slice ta k tc] 71)).row HDl.out (x := wr.heap.size) (Blk.new wr 71 #[.string M, .slice ta k tc]) rfl (one_file _ _ _ _))
        go_wp2_with (at_builtin; refine wpList_append_by rfl _ _ 62 rfl _ _ rfl rfl _ A1.out ?_; rintro v' w2 ⟨q1, -, q3, q4⟩; (have Q1 := Lib.hid q1); (have Q3 := Lib.hid q3); (have Q4 := Lib.hid q4); clear q1 q3 q4)
        go_wp2
        go_roundw
        case rel =>
          refine ⟨i + 1, by omega, by go_num, Lib.hid ⟨?_, near_new (HM.out.alloc _).bel.size HM.out.new Q4.out, only_own (HM.out.alloc _).bel HM.out.new Q3.out⟩⟩
          rw [HSn.out, cellsF_snoc, List.length_append, HCel.out]
          exact Q1.out
        case measure => simp [intOf]; omega
    · obtain rfl : i = L := by omega
      have hm := HM.out
      rw [List.take_of_length_le (by have := HL.out; omega)] at hm
      obtain ⟨la, lc, hu⟩ := fls_row_slice hm.row
      subst hu
      have HE := Lib.hid hm
      clear hm HM
      go_wp2
      go_ret
      exact ⟨_, rfl, HE.out⟩
end Go.Proofs.Ytabddeoeihlnnaa
