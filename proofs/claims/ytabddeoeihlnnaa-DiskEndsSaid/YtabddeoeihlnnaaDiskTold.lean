/- told, alike: all files as a list of texts. -/
import Derived.Test.YtabddeoeihlnnaaDiskStep
namespace Go.Proofs.Ytabddeoeihlnnaa
open Go.RowKit Go.Maps DiskMath Reg

/-- Names and texts, one behind the other. -/
def toldL (l : Fs) : List Nm := l.flatMap fun p => [p.1, p.2]

theorem toldL_snoc (l : Fs) (p : Nm × List UInt8) : toldL (l ++ [p]) = toldL l ++ [p.1, p.2] := by simp [toldL]

theorem toldL_length (l : Fs) : (toldL l).length = l.length * 2 := by
  induction l with
  | nil => rfl
  | cons p r ih => simp only [toldL, List.flatMap_cons, List.length_append, List.length_cons, List.length_nil] at ih ⊢; rw [ih]; omega

set_option maxHeartbeats 1000000 in
theorem alike_any {w : World} {B B' : Nat} {v v' : Value} {l : List Nm} (h : Nms w B v l) (h' : Nms w B' v' l) (hl : l.length ≤ 100000) :
    Calls Try.prog 18 #[v, v'] w fun e w' => e = .returned (.bool true) ∧ Below w.heap.size w w' := by
  obtain ⟨a, c, hv⟩ := nms_slice h
  obtain ⟨a', c', hv'⟩ := nms_slice h'
  subst hv
  subst hv'
  obtain ⟨n, hn⟩ : ∃ n, n = l.length := ⟨_, rfl⟩
  rw [← hn] at h h' hl ⊢
  have HA := Lib.hid h
  have HB := Lib.hid h'
  have HN := Lib.hid hn
  clear h h' hn
  go_enter Try.func18, Try.ntmps18
  go_wp2
  go_loopw [5] (fun s5 wr => ∃ i : Nat, i ≤ n ∧ s5 = .int .i64 i ∧ Hid (Below w.heap.size w wr)) (fun s5 _ => n - (intOf s5).toNat)
  case atStart => exact ⟨0, Nat.zero_le _, rfl, Lib.hid (Below.refl _ _)⟩
  case round =>
    obtain ⟨i, hi, rfl, HBe⟩ := hrel
    by_cases hlt : i < n
    · have i0 : (0 : Int) ≤ (i : Int) := Int.natCast_nonneg _
      have i1 : (i : Int) < (n : Int) := by omega
      obtain ⟨x, hx⟩ : ∃ x, l[i]? = some x := ⟨l[i]'(by have := HN.out; omega), List.getElem?_eq_getElem _⟩
      obtain ⟨g, ha, hc⟩ := (HA.out.below HBe.out).at hx
      obtain ⟨g', ha', hc'⟩ := (HB.out.below HBe.out).at hx
      subst ha
      subst ha'
      obtain ⟨N, hN⟩ : ∃ N, nm x = .string N := ⟨_, rfl⟩
      rw [hN] at hc hc'
      have d0 : ∀ q, (wr.drewN q).cell? ⟨g, i, none⟩ = some (.string N) := fun q => hc
      have d1 : ∀ q, (wr.drewN q).cell? ⟨g', i, none⟩ = some (.string N) := fun q => hc'
      have e0 : ∀ W, (Instr.indexAt 38 (.slice (some ⟨g, 0, none⟩) n c) (.int .i64 (i : Int))).run Try.prog W = .ok (.pointer (some ⟨g, i, none⟩)) W := fun W => strs_index W g n c i hlt
      have e1 : ∀ W, (Instr.indexAt 38 (.slice (some ⟨g', 0, none⟩) n c') (.int .i64 (i : Int))).run Try.prog W = .ok (.pointer (some ⟨g', i, none⟩)) W := fun W => strs_index W g' n c' i hlt
      clear hc hc' hN hx
      go_wp2_with fail
      go_quiet (fail)
      clear d0 d1 e0 e1
      go_wp2
      go_roundw
      case rel => exact ⟨i + 1, by omega, by go_num, Lib.hid (below_draws HBe.out _)⟩
      case measure => simp [intOf]; omega
    · go_wp2
      go_ret
      exact ⟨rfl, HBe.out⟩

theorem info_str : (Try.prog.info? 9).map (fun i => (i.zero, i.size, i.bytes)) = some (some (.string ⟨#[]⟩), 1, 16) := by kernel_rfl

/-- append(out, n, t). -/
theorem add_strs {w : World} {B : Nat} {v : Value} {l : List Nm} (h : Nms w B v l) (x y : ByteArray) (hB : B ≤ w.heap.size) (hl : l.length ≤ 100000) {g : Nat} (hg : Blk w g 9 #[.string x, .string y]) :
    ∃ v' w', (Builtin.append_ #[38, 38] 38 #[v, .slice (some ⟨g, 0, none⟩) 2 2]).run Try.prog w = .ok v' w' ∧ Nms w' B v' (l ++ [x.data.toList, y.data.toList]) ∧ w.grownBy w' v.ownBlock := by
  obtain ⟨i0, hi, hz0, hz1, hz2⟩ := info_parts info_str
  obtain ⟨v', w', hr, h1, h2, -⟩ := run_append_own (P := Try.prog) w B 38 38 9 i0 (.string ⟨#[]⟩) 1 16 Try.underlying38 hi hz0 hz1 hz2 rfl (by decide) v l.length (l.map nm) h ⟨g, 0, none⟩ 2 2 [.string x, .string y] rfl
    (fun j u hj => by rw [addr_add, Nat.zero_add, hg.cell]; simpa using hj) (by intro u hu; simp at hu; rcases hu with rfl | rfl <;> rfl) (by unfold maxLen; omega) (by omega) hB
  refine ⟨v', w', hr, ?_, h2⟩
  unfold Nms
  rw [List.length_append, List.map_append]
  show w'.ownsRow B _ 1 v' (l.length + 2) (l.map nm ++ [nm x.data.toList, nm y.data.toList])
  rw [← nm_of, ← nm_of]
  exact h1

theorem build_strs (W : World) (x y : ByteArray) : (Instr.buildSlice 38 2 #[(0, .string x), (1, .string y)]).run Try.prog W = .ok (.slice (some ⟨W.heap.size, 0, none⟩) 2 2) (W.alloc (.cells #[.string x, .string y] 9)) := by
  have hz : (zeroValue 9).run Try.prog W = .ok (.string ⟨#[]⟩) W := by kernel_rfl
  have hs : (Go.sizeOf 9).run Try.prog W = .ok 1 W := by kernel_rfl
  have hr : Array.range 2 = #[0, 1] := by decide
  simp [Instr.buildSlice, run_underlying Try.underlying38, Result.andThen, hz, hs, Instr.fill, newRow, Value.cells, hr]

theorem str_load (W : World) (p : Addr) (s : ByteArray) (h : W.cell? p = some (.string s)) : (Instr.loadAt 9 (.pointer (some p))).run Try.prog W = .ok (.string s) W := by
  have hagg : (isAgg 9).run Try.prog W = .ok false W := by kernel_rfl
  simp [Instr.loadAt, Instr.sureAddr, loadVar, Sem.run_bind, hagg, h]

set_option maxHeartbeats 2000000 in
set_option maxRecDepth 100000 in
theorem told_any {w : World} {T : Nat → Prop} {d c : Nat} {s : St} (h : IsDisk w T d c s) (hoff : s.off = false) :
    Calls Try.prog 16 #[dp d] w fun e w' => ∃ v, e = .returned v ∧ Nms w' w.heap.size v (toldL s.now) ∧ Below w.heap.size w w' := by
  have HD := Lib.hid h
  have HList := Lib.hid (list_any h)
  obtain ⟨m, hm⟩ : ∃ m, m = s.now.length := ⟨_, rfl⟩
  obtain ⟨hm2, hri, hfit⟩ : m ≤ 2000 ∧ Rise s.now ∧ Fit s.now := by
    obtain ⟨m1, m2, F1, F2, ws, G, hd, -⟩ := h.ex
    have h1 := hd.ok.fewN
    have h2 := hd.small
    exact ⟨by omega, hd.ok.riseN, hd.ok.fitN⟩
  have HM := Lib.hid hm
  have HRi := Lib.hid hri
  have HFi := Lib.hid hfit
  have HOff := Lib.hid hoff
  clear h hm hri hfit hoff
  go_enter Try.func16, Try.ntmps16
  go_wp2_with fail
  refine HList.out.mono ?_
  rintro e w1 ⟨v1, rfl, hn1, hb1⟩
  obtain ⟨la, lc, hv1⟩ := nms_slice hn1
  subst hv1
  have hml : (s.now.map (·.1)).length = m := by rw [List.length_map]; exact HM.out.symm
  rw [hml] at hn1 ⊢
  have HN1 := Lib.hid hn1
  have HB1 := Lib.hid hb1
  have HD1 := Lib.hid (HD.out.below hb1)
  clear hn1 hb1 hml HList
  go_wp2
  go_loopw [3, 5] (fun s3 s5 wr => ∃ i : Nat, i ≤ m ∧ s5 = .int .i64 i ∧ Hid (Nms wr w1.heap.size s3 (toldL (s.now.take i))) ∧ Hid (Below w1.heap.size w1 wr)) (fun _ s5 _ => m - (intOf s5).toNat)
  case atStart => exact ⟨0, Nat.zero_le _, rfl, Lib.hid (World.ownsRow_nil _ _ _ _), Lib.hid (Below.refl _ _)⟩
  case round =>
    obtain ⟨i, hi, rfl, HO, HB⟩ := hrel
    by_cases hlt : i < m
    · have i0 : (0 : Int) ≤ (i : Int) := Int.natCast_nonneg _
      have i1 : (i : Int) < (m : Int) := by omega
      obtain ⟨p, hp⟩ : ∃ p, s.now[i]? = some p := ⟨s.now[i]'(by have := HM.out; omega), List.getElem?_eq_getElem _⟩
      obtain ⟨n0, t0⟩ := p
      have hmem := List.mem_of_getElem? hp
      have hn16 : n0.length ≤ 16 ∧ t0.length ≤ 8388608 := HFi.out _ hmem
      have hget := getA_of_mem HRi.out hmem
      have hrd : s.read n0 = (0, t0) := by unfold St.read; rw [HOff.out, hget]; rfl
      obtain ⟨g0, hla, hc0⟩ := HN1.out.at (i := i) (x := n0) (by rw [List.getElem?_map, hp]; rfl)
      subst hla
      have hids : ∀ W, (Instr.indexAt 38 (.slice (some ⟨g0, 0, none⟩) m lc) (.int .i64 (i : Int))).run Try.prog W = .ok (.pointer (some ⟨g0, i, none⟩)) W := fun W => strs_index W g0 m lc i hlt
      have hread := read_any (HD1.out.below HB.out) (n := n0) (by have := hn16.1; omega)
      rw [hrd] at hread
      have htake : s.now.take (i + 1) = s.now.take i ++ [(n0, t0)] := by rw [List.take_add_one, hp]; rfl
      have HTake := Lib.hid htake
      obtain ⟨N, hN⟩ : ∃ N, nm n0 = .string N := ⟨_, rfl⟩
      rw [hN] at hread hc0
      have HN := Lib.hid hN
      have HC : Hid (∀ W, Below w1.heap.size w1 W → W.cell? ⟨g0, i, none⟩ = some (.string N)) := Lib.hid fun W hW => by rw [hW.cell (World.block_lt_of_cell? w1 _ hc0)]; exact hc0
      have hcw := HC.out wr HB.out
      have HRead := Lib.hid hread
      obtain ⟨k, hk⟩ : ∃ k, k = t0.length := ⟨_, rfl⟩
      have HK := Lib.hid hk
      clear hp hmem hn16 hget hrd hc0 hread htake hN hk
      go_wp2_with fail
      refine HRead.out.mono ?_
      rintro e w2 ⟨v, rfl, hr2, hb2⟩
      obtain ⟨va, vc, rfl⟩ := slice_of_row hr2
      simp only [← HK.out] at hr2 ⊢
      have hb12 := HB.out.trans (hb2.mono HB.out.size)
      have HB2 := Lib.hid hb12
      have HR2 := Lib.hid hr2
      have ho2 := HO.out.below hb2
      have HO2 := Lib.hid ho2
      obtain ⟨oa, oc, hu3⟩ := nms_slice ho2
      obtain ⟨on, hon⟩ : ∃ on, on = (toldL (s.now.take i)).length := ⟨_, rfl⟩
      have hon2 : on ≤ 4000 := by rw [hon, toldL_length, List.length_take]; omega
      rw [← hon] at hu3
      subst hu3
      have HOn := Lib.hid hon
      clear hr2 hb2 hb12 HRead ho2 hon HO
      go_wp2_with fail
      have hG : ∀ W W' : World, (Below w1.heap.size w1 W ∧ Row W 0 (.slice va k vc) t0) → Below W.heap.size W W' → (Below w1.heap.size w1 W' ∧ Row W' 0 (.slice va k vc) t0) := fun W W' h h' => ⟨h.1.trans (h'.mono h.1.size), h.2.below h'⟩
      refine region_last_by 9 _ _ rfl [(3, .sat (fun v W => v = .slice oa on oc ∧ Nms W w1.heap.size v (toldL (s.now.take i))) (fun _ _ _ h hb => ⟨h.1, h.2.below hb⟩)), (25, .sat (fun v W => v = .slice oa on oc ∧ Nms W w1.heap.size v (toldL (s.now.take i))) (fun _ _ _ h hb => ⟨h.1, h.2.below hb⟩)),
          (26, .is (.slice (some ⟨g0, 0, none⟩) m lc)), (27, .is (.int .i64 (i : Int))), (28, .is (.pointer (some ⟨g0, i, none⟩))), (29, .is (.string N)), (30, .is (.slice va k vc)), (31, .is (.string ⟨t0.toArray⟩)),
          (32, .sat (fun v W => ∃ x, v = .slice (some ⟨x, 0, none⟩) 2 2 ∧ Blk W x 9 #[.string N, .string ⟨t0.toArray⟩]) (fun _ _ _ h hb => by obtain ⟨x, h1, h2⟩ := h; exact ⟨x, h1, h2.keep hb⟩)),
          (33, .sat (fun v W => Nms W w1.heap.size v (toldL (s.now.take (i + 1)))) (fun _ _ _ h hb => h.below hb))]
        [0, 1, 2, 4, 5, 8, 9, 33, 34] (fun W => Below w1.heap.size w1 W ∧ Row W 0 (.slice va k vc) t0) (by kernel_rfl) (by kernel_rfl) (by kernel_rfl) (by kernel_rfl) ?_ rfl rfl rfl (by kernel_rfl) ⟨below_draws HB2.out 1, row_lower0 HR2.out⟩ ?_ ?_
      · intro q fq hq
        by_cases h4 : q = 3
        · subst h4
          right
          obtain rfl := Option.some.inj hq
          exact ⟨rfl, HO2.out⟩
        · left
          exact lookup_all 3 (by kernel_rfl) hq h4
      · refine ⟨?a0, ?a1, ?a2, ?a3, ?a4, ?a5, ?a6, ?a7, ?a8, trivial⟩
        case a0 => exact ask_copy (guard_none rfl) (.tmp 3) (.inl rfl) (by intro k hk; cases hk; rfl)
        case a1 => exact ask_copy (guard_none rfl) (.tmp 4) (.inl rfl) (by intro k hk; cases hk; rfl)
        case a2 => exact ask_copy (guard_none rfl) (.tmp 5) (.inl rfl) (by intro k hk; cases hk; rfl)
        case a3 => exact ask_index (guard_none rfl) _ (.tmp 26) (.tmp 27) (.slice (some ⟨g0, 0, none⟩) m lc) (.int .i64 (i : Int)) (.pointer (some ⟨g0, i, none⟩)) rfl rfl rfl (by intro k hk; cases hk; rfl) hids
        case a4 => exact ask_load (guard_none rfl) _ (.tmp 28) (.pointer (some ⟨g0, i, none⟩)) (.string N) rfl rfl (by intro k hk; cases hk; rfl) (fun W hW => str_load W _ _ (HC.out W hW.1))
        case a5 => exact ask_copy (guard_none rfl) (.tmp 6) (.inl rfl) (by intro k hk; cases hk; rfl)
        case a6 => exact ask_string_is (guard_none rfl) (.tmp 30) (.slice va k vc) t0 rfl (fun W hW => hW.2.bys) rfl (by intro k hk; cases hk; rfl)
        case a7 => exact ask_grow hG (guard_none rfl) (fun x W hW ht => by
          have e29 : x 29 = .string N := ht 29 rfl
          have e31 : x 31 = .string ⟨t0.toArray⟩ := ht 31 rfl
          refine gives_value (v := .slice (some ⟨W.heap.size, 0, none⟩) 2 2) (w' := W.alloc (.cells #[.string N, .string ⟨t0.toArray⟩] 9)) ?_ ⟨(Below.refl _ _).alloc (Nat.le_refl _) _, fun q hq => by cases hq; exact ⟨W.heap.size, rfl, Blk.new W _ _⟩⟩
          have hb := build_strs W N ⟨t0.toArray⟩
          simp only [execOp, List.map_toArray, List.map_cons, List.map_nil, evalBy, e29, e31, Sem.run_bind, hb, Result.andThen_ok, Sem.run_pure])
        case a8 => exact ask_write (guard_none rfl) (by kernel_rfl) (fun x W hW ht => by
          obtain ⟨e25, hrow⟩ : x 25 = .slice oa on oc ∧ Nms W w1.heap.size (x 25) (toldL (s.now.take i)) := ht 25 rfl
          obtain ⟨y, e32, hy⟩ : ∃ y, x 32 = .slice (some ⟨y, 0, none⟩) 2 2 ∧ Blk W y 9 #[.string N, .string ⟨t0.toArray⟩] := ht 32 rfl
          obtain ⟨v', w', hr, r1, r2⟩ := add_strs hrow N ⟨t0.toArray⟩ hW.1.size (by have := HOn.out; omega) hy
          have hnew : ∀ k, (x 25).ownBlock = some k → w1.heap.size ≤ k := fun k hk => (World.ownsRow.lt hrow k hk).1
          have hn0 : N.data.toList = n0 := by
            have h := HN.out
            rw [show (Value.string N) = nm N.data.toList from nm_of N] at h
            unfold nm at h
            simp at h
            rw [← h]
          rw [hn0] at r1
          refine gives_value (v := v') (w' := w') ?_ ⟨⟨hW.1.grown r2 hW.1.size hnew, hW.2.same fun k hk => r2.block k (hW.2.lt hk).2 fun e => by
            obtain ⟨cur, hcu⟩ := hW.2.block hk
            obtain ⟨cur', hcu'⟩ := ownRow_block hrow e.symm
            rw [hcu] at hcu'
            simp at hcu'⟩, fun q hq => by
            cases hq
            show Nms w' w1.heap.size v' (toldL (s.now.take (i + 1)))
            rw [HTake.out, toldL_snoc]
            exact r1⟩
          simp [execOp, resolve, invoke, builtin, evalBy, e32, hr, Result.andThen])
      · intro a' W9 hW9 hd9 hs9 hf9
        have t00 : a'.tmps.getD 0 undef = dp d := hf9 0 rfl
        have t01 : a'.tmps.getD 1 undef = undef := hf9 1 rfl
        have t02 : a'.tmps.getD 2 undef = .slice none 0 0 := hf9 2 rfl
        have t04 : a'.tmps.getD 4 undef = .slice (some ⟨g0, 0, none⟩) m lc := hf9 4 rfl
        have t05 : a'.tmps.getD 5 undef = .int .i64 (i : Int) := hf9 5 rfl
        have t08 : a'.tmps.getD 8 undef = dp d := hf9 8 rfl
        have t09 : a'.tmps.getD 9 undef = .slice (some ⟨g0, 0, none⟩) m lc := hf9 9 rfl
        have t33 : Nms W9 w1.heap.size (a'.tmps.getD 33 undef) (toldL (s.now.take (i + 1))) := hf9 33 rfl
        have t34 : a'.tmps.getD 34 undef = undef := hf9 34 rfl
        obtain ⟨us, hus, ha'⟩ := act_open 35 a' hs9 hd9
        rw [← hus] at t00 t01 t02 t04 t05 t08 t09 t33 t34
        have el : ((List.range 35).map us).toArray = #[us 0, us 1, us 2, us 3, us 4, us 5, us 6, us 7, us 8, us 9, us 10, us 11, us 12, us 13, us 14, us 15, us 16, us 17, us 18, us 19, us 20, us 21, us 22, us 23, us 24, us 25, us 26, us 27, us 28, us 29, us 30, us 31, us 32, us 33, us 34] := rfl
        rw [el] at ha'
        subst ha'
        rw [t00, t01, t02, t04, t05, t08, t09, t34]
        have HRow := Lib.hid t33
        have HBl := Lib.hid hW9.1
        clear hus t00 t01 t02 t04 t05 t08 t09 t33 t34 el hf9 hs9 hd9 hW9 hG hids hcw
        go_wp2
        go_roundw
        case rel => exact ⟨i + 1, by omega, by go_num, HRow, HBl⟩
        case measure => simp [intOf]; omega
    · have ho := HO.out
      rw [List.take_of_length_le (by have := HM.out; omega)] at ho
      obtain ⟨oa, oc, hu3⟩ := nms_slice ho
      obtain ⟨on, hon⟩ : ∃ on, on = (toldL s.now).length := ⟨_, rfl⟩
      rw [← hon] at hu3
      subst hu3
      have HE : Hid (Nms wr w.heap.size (.slice oa on oc) (toldL s.now)) := Lib.hid (ownsRow_base_a ho HB1.out.size)
      clear hon ho HO
      go_wp2
      go_ret
      exact ⟨_, rfl, HE.out, HB1.out.trans (HB.out.mono HB1.out.size)⟩
end Go.Proofs.Ytabddeoeihlnnaa
