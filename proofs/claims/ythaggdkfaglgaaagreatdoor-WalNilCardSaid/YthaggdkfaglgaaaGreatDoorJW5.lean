/- Joined: Dies, WalNone, WalAwake, CrcTab, WalTab. -/
import Derived.Test.YthaggdkfaglgaaaGreatDoorJA1
import Derived.Test.YthaggdkfaglgaaaGreatDoorJW4
import Derived.Lib.SlBytesConst
import Derived.Test.YthaggdkfaglgaaaGreatDoorCards
import Derived.Test.YthaggdkfaglgaaaGreatDoorTie
import Derived.Test.YthaggdkfaglgaaaGreatDoorJF1
import Derived.WalkKit
import Derived.ProofKit
import Derived.OpenShut
import Derived.Deep.DeepHandedRow
import Derived.Lib.LaidTab
import Derived.Test.YthaggdkfaglgaaaGreatDoorJW2
import Derived.Stop.LaidErr
/- A region that draws its order, in which one operation, a call, dies: what stands ahead of it is told by facts; what waits for it never comes up. -/
namespace Go.Proofs.YthaggdkfaglgaaaGreatDoor
set_option maxRecDepth 20000
open Go.RowKit Reg

theorem any_dies {P : Program} {ops : Array Oper} {tab : List (List Nat)} {fin : List Tmp} {G : World → Prop} {F : Tmp → Value → World → Prop} {a0 : Act} {Q : Exit → Act → World → Prop} (n : Nat)
    (hs : sound ops = true) (ht : tableOk ops tab = true) (hn : n < ops.size) (hdep : ∀ i, n < i → i < ops.size → n ∈ preds ops i ∨ n ∈ tab.getD i [])
    (hd : ∀ (i : Nat) (o : Oper), ops[i]? = some o → ∀ d, o.dst = some d → d < a0.tmps.size)
    (hops : ∀ (i : Nat) (o : Oper), ops[i]? = some o → i < n → asked P ops tab fin G F i o) {on : Oper} (hon : ops[n]? = some on)
    (hdie : ∀ (a : Act) (W : World), G W → a.defers = a0.defers → a.tmps.size = a0.tmps.size → (∀ k, (on.looksAt ops).contains k = true → F k (a.tmps.getD k undef) W) → wantedBy ops on (fun t => a.tmps.getD t undef) ∧ on.wp P a W (fun _ _ => False) Q) :
    ∀ (fuel : Nat) (listed : Array Bool) (a : Act) (W : World), Reg.left listed ≤ fuel → listed.getD n false = false → Inv ops fin G F a0 listed a W → wpAny P .any ops Q fuel listed a W := by
  intro fuel
  induction fuel with
  | zero =>
    intro listed a W hf hnl h
    have unl : listed.getD n true = false := by
      rw [Array.getD_eq_getD_getElem?, Array.getElem?_eq_getElem (by have := h.lsize; omega)] at hnl ⊢
      exact hnl
    have := left_set unl
    omega
  | succ fuel ih =>
    intro listed a W hf hnl h
    refine ⟨fun hr => ?_, fun i hi => ?_⟩
    · have := all_listed hs h.lsize hr n hn
      rw [hnl] at this
      cases this
    obtain ⟨hun, o, ho, hpre⟩ := mem_ready.1 hi
    have hil : i < ops.size := (Array.getElem?_eq_some_iff.1 ho).1
    have hun' : listed.getD i false = false := by
      rw [Array.getD_eq_getD_getElem?, Array.getElem?_eq_getElem (by rw [h.lsize]; exact hil)] at hun ⊢
      exact hun
    have hsd := sound_edge hs ho
    have hp : ∀ j ∈ preds ops i, listed.getD j false = true := fun j hj => by
      obtain ⟨e, he, hb, rfl⟩ := (mem_preds ho).1 hj
      exact hpre e he hb
    have hF : ∀ k, (o.looksAt ops).contains k = true → F k (a.tmps.getD k undef) W := fun k hk => h.facts k (fun j oj hj hdj => by
      obtain ⟨e, he, hb, rfl⟩ := hsd.2 k (by simpa using hk) j oj hj hdj
      exact hpre e he hb) (.inr ⟨i, o, ho, hk, hun'⟩)
    unfold wpOp
    rcases Nat.lt_trichotomy i n with hin | hin | hin
    · obtain ⟨hw, hg⟩ := hops i o ho hin (fun t => a.tmps.getD t undef) W h.grown hF
      simp only [ho, wanted_of hw, if_true]
      refine .inl (wp_of_gives hg fun v w' ⟨h1, h2, h3⟩ => ih _ _ _ ?_ ?_ (inv_step ht h ho hp (hd i o ho) h1 h2 h3))
      · have := left_set hun
        omega
      · rw [Array.getD_eq_getD_getElem?, Array.getElem?_setIfInBounds_ne (by omega), ← Array.getD_eq_getD_getElem?]
        exact hnl
    · subst hin
      rw [ho] at hon
      cases hon
      obtain ⟨hw, hg⟩ := hdie a W h.grown h.defers h.size hF
      simp only [ho, wanted_of hw, if_true]
      exact .inl (Oper.wp_mono (fun _ _ h => h.elim) hg)
    · exfalso
      have h1 : listed.getD n false = true := by
        rcases hdep i hin hil with h2 | h2
        · exact hp n h2
        · exact table_listed ht h.down i hil hp n h2
      rw [hnl] at h1
      cases h1

/-- **A REGION IN WHICH A CALL DIES.** -/
theorem region_dies_by {P : Program} {ops : Array Oper} {id : Nat} {a : Act} {w : World} {Q : Exit → Act → World → Prop} (n : Nat) (l : List (Tmp × Fact)) (G : World → Prop) (ch : List PanicEntry)
    (hm : P.follows .mixedOrders = true) (hs : sound ops = true) (ht : tableOk ops (table ops) = true) (hd : (ops.all fun o => (o.dst.map fun d => decide (d < a.tmps.size)).getD true) = true)
    (hl : (l.all fun p => ops.any fun o => o.dst == some p.1) = true) (hn : n < ops.size)
    (hdep : ((List.range ops.size).all fun i => decide (i ≤ n) || (preds ops i).contains n || ((table ops).getD i []).contains n) = true) (hG : G w.drew)
    (hops : AskedAll P ops (table ops) [] G (factsOf l a) 0 (ops.toList.take n))
    (on : Oper) (hon : ops[n]? = some on) (hg : on.guard = none) (f : FuncId) (ss : Array Operand) (ts : Array TypeId) (args : Array Value)
    (ho : on.op = .call { callee := .value (.func f), args := ss, argTypes := ts }) (hfn : ((P.funcs[f]?).map fun fn => (fn.name == "runtime.NumGoroutine", fn.body.isNone)) = some (false, false))
    (hka : (ss.toList.all fun s => isIs (opFact (factsOf l a) s)) = true) (hargs : ss.toList.map (opVal (factsOf l a)) = args.toList)
    (hcall : ∀ W, G W → Calls P f args W fun e W' => e = .panicked ch ∧ G W')
    (hend : ∀ a' W, G W → a'.defers = a.defers → a'.tmps.size = a.tmps.size → Q (.panic ch) a' W) : (Code.region id ops true).wp P Q a w := by
  refine wp_region_any hm (any_dies (tab := table ops) (fin := []) (G := G) (F := fun k v W => (factsOf l a k).holds v W) (a0 := a) n hs ht hn (fun i h1 h2 => ?_) ?_ (fun i o hi hin => ?_) hon ?_ _ _ _ _ ?_ ?_ ?_)
  · have h3 := List.all_eq_true.1 hdep i (List.mem_range.2 h2)
    have h4 : decide (i ≤ n) = false := by simp; omega
    rw [h4, Bool.false_or, Bool.or_eq_true] at h3
    rcases h3 with h5 | h5
    · exact .inl (by simpa using h5)
    · exact .inr (by simpa using h5)
  · intro i o hi d hdst
    have := Array.all_eq_true_iff_forall_mem.1 hd o (Array.mem_of_getElem? hi)
    simpa [hdst] using this
  · have := asked_of_all (ops.toList.take n) 0 hops i o (by rw [List.getElem?_take, if_pos hin]; simpa using hi)
    rwa [Nat.zero_add] at this
  · intro a' W hW hdf hsz hF
    refine ⟨guard_ok (guard_none hg) hF, ?_⟩
    have ea : ss.map (evalBy fun t => a'.tmps.getD t undef) = args := by
      have hargs' : ss.map (opVal (factsOf l a)) = args := by
        apply Array.toList_inj.1
        rw [Array.toList_map, hargs]
      rw [← hargs']
      refine Array.map_congr_left fun s hs => ?_
      have h1 := told_op hF s (by rw [ho]; simp [Op.operands, Call.operands, hs])
      have h2 := List.all_eq_true.1 hka s (by simpa using hs)
      unfold opVal
      cases hf : opFact (factsOf l a) s with
      | is v => rw [hf] at h1; exact h1
      | _ => rw [hf] at h2; cases h2
    obtain ⟨fn, hf, hp⟩ := Option.map_eq_some_iff.1 hfn
    simp only [Prod.mk.injEq] at hp
    have e : execOp a'.eval on = callFunc f (#[] ++ ss.map (evalBy fun t => a'.tmps.getD t undef) ++ #[]) := by
      obtain ⟨dst, op, type, pos, after, guard⟩ := on
      simp only at ho
      subst ho
      rw [evalBy_eq]
      rfl
    have h1 : fn.name ≠ "runtime.NumGoroutine" := by simpa using hp.1
    have h2 : fn.body ≠ none := by intro hh; have := hp.2; rw [hh] at this; cases this
    have er : (execOp a'.eval on).run P W = .ok (.enter f args) W := by
      rw [e, ea]
      simp [callFunc, hf, h1, h2]
    unfold Oper.wp
    rw [er]
    simp only [Oper.upon]
    refine (hcall W hW).mono ?_
    rintro e' W' ⟨rfl, hW'⟩
    exact hend _ _ hW' hdf hsz
  · unfold Reg.left
    refine Nat.le_trans (List.length_filter_le _ _) (by simp)
  · rw [Array.getD_eq_getD_getElem?]
    simp [Array.getElem?_replicate]
    split <;> simp
  · refine ⟨hG, rfl, rfl, by simp, fun i o hi hl => ?_, fun k hk _ => ?_⟩
    · rw [Array.getD_eq_getD_getElem?] at hl
      simp [Array.getElem?_replicate] at hl
      split at hl <;> simp at hl
    · cases hkl : l.lookup k with
      | none => simp [factsOf, hkl, Fact.holds]
      | some fk =>
        exfalso
        have hmem : (k, fk) ∈ l := by
          clear hl hops hend hka hargs
          induction l with
          | nil => simp at hkl
          | cons p l ih =>
            obtain ⟨p1, p2⟩ := p
            rw [List.lookup_cons] at hkl
            by_cases hkp : (k == p1) = true
            · rw [hkp] at hkl
              simp at hkl hkp
              subst hkl hkp
              simp
            · simp only [hkp] at hkl
              exact List.mem_cons_of_mem _ (ih hkl)
        have h := List.all_eq_true.1 hl _ hmem
        obtain ⟨o, ho, hdst⟩ := Array.any_eq_true'.1 h
        obtain ⟨i, hi⟩ := Array.mem_iff_getElem?.1 ho
        have := hk i o hi (by simpa using hdst)
        rw [Array.getD_eq_getD_getElem?] at this
        simp [Array.getElem?_replicate] at this
        split at this <;> simp at this
end Go.Proofs.YthaggdkfaglgaaaGreatDoor

/- A disk that is nil, a log that is nil. -/
namespace Go.Proofs.YthaggdkfaglgaaaGreatDoor
set_option maxRecDepth 20000
open Go.RowKit Go.Maps DiskMath WalMath FrameMath Reg

theorem wdown_nil (w : World) : Calls Tryz.prog 18 #[.pointer none] w fun e w' => e = .returned (.bool true) ∧ w = w' := by
  go_enter Tryz.func18, Tryz.ntmps18
  go_wp2
  go_ret
  exact ⟨rfl, rfl⟩

theorem wlist_nil (w : World) : Calls Tryz.prog 147 #[.pointer none] w fun e w' => e = .returned (.slice none 0 0) ∧ w = w' := by
  go_enter Tryz.func147, Tryz.ntmps147
  go_wp2
  go_ret
  exact ⟨rfl, rfl⟩

theorem wread_nil (N : Value) (w : World) : Calls Tryz.prog 149 #[.pointer none, N] w fun e w' => e = .returned (.tuple #[.slice none 0 0, .int .i64 6]) ∧ w = w' := by
  go_enter Tryz.func149, Tryz.ntmps149
  go_wp2_with fail
  refine (wdown_nil w).mono ?_
  rintro e w1 ⟨rfl, rfl⟩
  go_wp2
  go_ret2
  exact ⟨rfl, rfl⟩

theorem nfirst_any (w : World) : Calls Tryz.prog 29 #[.pointer none] w fun e w' => e = .returned (.int .u64 0) ∧ w = w' := by
  go_enter Tryz.func29, Tryz.ntmps29
  go_wp2
  go_ret
  exact ⟨rfl, rfl⟩

theorem nnext_any (w : World) : Calls Tryz.prog 30 #[.pointer none] w fun e w' => e = .returned (.int .u64 0) ∧ w = w' := by
  go_enter Tryz.func30, Tryz.ntmps30
  go_wp2
  go_ret
  exact ⟨rfl, rfl⟩

theorem nover_any (w : World) : Calls Tryz.prog 52 #[.pointer none] w fun e w' => e = .returned (.bool true) ∧ w = w' := by
  go_enter Tryz.func52, Tryz.ntmps52
  go_wp2
  go_ret
  exact ⟨rfl, rfl⟩

theorem nget_any (n : Nat) (w : World) : Calls Tryz.prog 26 #[.pointer none, .int .u64 (n : Int)] w fun e w' => e = .returned (.tuple #[.slice none 0 0, .int .i64 9]) ∧ w = w' := by
  have i1 : decide ((n : Int) < 0) = false := by simp
  have i3 : decide (0 ≤ (n : Int)) = true := by simp
  go_enter Tryz.func26, Tryz.ntmps26
  go_wp2_with fail
  refine (nfirst_any w).mono ?_
  rintro e w1 ⟨rfl, rfl⟩
  go_wp2_with fail
  refine (nnext_any w).mono ?_
  rintro e w1 ⟨rfl, rfl⟩
  go_wp2
  go_ret2
  exact ⟨rfl, rfl⟩

theorem nsync_any (w : World) : Calls Tryz.prog 19 #[.pointer none] w fun e w' => e = .returned (.int .i64 6) ∧ Below w.heap.size w w' := by
  go_enter Tryz.func19, Tryz.ntmps19
  go_wp2_with fail
  refine (nover_any w).mono ?_
  rintro e w1 ⟨rfl, rfl⟩
  go_wp2
  go_ret
  exact ⟨rfl, Below.refl _ _⟩

theorem nappend_any (ra : Option Addr) (rl rc : Nat) (w : World) : Calls Tryz.prog 31 #[.pointer none, .slice ra rl rc] w fun e w' => e = .returned (.int .i64 6) ∧ Below w.heap.size w w' := by
  go_enter Tryz.func31, Tryz.ntmps31
  go_wp2_with fail
  have hb0 : Below w.heap.size w ((w.alloc (.cells #[.pointer none] 37)).alloc (.cells #[.slice ra rl rc] 27)) := ((Below.refl _ w).alloc (Nat.le_refl _) _).alloc (by simp) _
  have HB0 := Lib.hid hb0
  refine (nover_any _).mono ?_
  rintro e w' ⟨rfl, rfl⟩
  clear hb0
  go_wp2
  go_ret
  exact ⟨rfl, HB0.out⟩

theorem ncut_any (n : Int) (w : World) : Calls Tryz.prog 32 #[.pointer none, .int .u64 n] w fun e w' => e = .returned (.int .i64 6) ∧ Below w.heap.size w w' := by
  go_enter Tryz.func32, Tryz.ntmps32
  go_wp2_with fail
  have hb0 : Below w.heap.size w ((w.alloc (.cells #[.pointer none] 37)).alloc (.cells #[.int .u64 n] 32)) := ((Below.refl _ w).alloc (Nat.le_refl _) _).alloc (by simp) _
  have HB0 := Lib.hid hb0
  refine (nover_any _).mono ?_
  rintro e w' ⟨rfl, rfl⟩
  clear hb0
  go_wp2
  go_ret
  exact ⟨rfl, HB0.out⟩

theorem ntrim_any (n : Int) (w : World) : Calls Tryz.prog 33 #[.pointer none, .int .u64 n] w fun e w' => e = .returned (.int .i64 6) ∧ Below w.heap.size w w' := by
  go_enter Tryz.func33, Tryz.ntmps33
  go_wp2_with fail
  have hb0 : Below w.heap.size w ((w.alloc (.cells #[.pointer none] 37)).alloc (.cells #[.int .u64 n] 32)) := ((Below.refl _ w).alloc (Nat.le_refl _) _).alloc (by simp) _
  have HB0 := Lib.hid hb0
  refine (nover_any _).mono ?_
  rintro e w' ⟨rfl, rfl⟩
  clear hb0
  go_wp2
  go_ret
  exact ⟨rfl, HB0.out⟩

set_option maxHeartbeats 1000000 in
theorem nmarked_any (q : Nm) (w : World) : Calls Tryz.prog 102 #[fv none q] w fun e w' => e = .returned (.int .u64 0) ∧ Below w.heap.size w w' := by
  obtain ⟨Qb, hQb⟩ : ∃ Qb : ByteArray, Qb = ⟨q.toArray⟩ := ⟨_, rfl⟩
  have eQ : nm q = .string Qb := by rw [hQb]; rfl
  unfold fv
  rw [eQ]
  clear hQb eQ
  go_enter Tryz.func102, Tryz.ntmps102
  go_wp2_with fail
  have hb0 : Below w.heap.size w (w.alloc (.cells #[.pointer none, .string Qb] 106)) := (Below.refl _ w).alloc (Nat.le_refl _) _
  obtain ⟨w0, hw0⟩ : ∃ w0, w0 = w.alloc (.cells #[.pointer none, .string Qb] 106) := ⟨_, rfl⟩
  rw [← hw0] at hb0 ⊢
  have HB0 := Lib.hid hb0
  clear hw0 hb0
  refine (wlist_nil w0).mono ?_
  rintro e w1 ⟨rfl, rfl⟩
  go_wp2
  go_loopw [3, 12] (fun s3 s12 wr => s3 = .int .u64 0 ∧ s12 = .int .i64 0 ∧ wr = w0) (fun _ _ _ => 0)
  case atStart => exact ⟨rfl, rfl, rfl⟩
  case round =>
    obtain ⟨rfl, rfl, rfl⟩ := hrel
    go_wp2
    go_ret
    exact ⟨rfl, HB0.out⟩

set_option maxHeartbeats 1000000 in
theorem nread_any {q : Nm} (hq : q.length ≤ 4) (n : Nat) (hn : n < 100) (w : World) :
    Calls Tryz.prog 103 #[fv none q, .int .u64 (n : Int)] w fun e w' => e = .panicked (gaveW 6) ∧ Below w.heap.size w w' := by
  have HN100 := Lib.hid hn
  clear hn
  go_enter Tryz.func103, Tryz.ntmps103
  go_upto_region 1 with fail
  have hb0 : Below w.heap.size w (w.alloc (.cells #[.pointer none, nm q] 106)) := (Below.refl _ w).alloc (Nat.le_refl _) _
  have hbk : Blk (w.alloc (.cells #[.pointer none, nm q] 106)) w.heap.size 106 #[.pointer none, nm q] := Blk.new w _ _
  obtain ⟨w1, hw1⟩ : ∃ w1, w1 = w.alloc (.cells #[.pointer none, nm q] 106) := ⟨_, rfl⟩
  rw [← hw1] at hb0 hbk ⊢
  obtain ⟨B, hB⟩ : ∃ B, B = w.heap.size := ⟨_, rfl⟩
  rw [← hB] at hbk ⊢
  have HBk1 := Lib.hid hbk
  have HB0 := Lib.hid hb0
  have HBB := Lib.hid hB
  clear hw1 hB hbk hb0
  have hG : ∀ W W' : World, Below w1.heap.size w1 W → Below W.heap.size W W' → Below w1.heap.size w1 W' := fun W W' h h' => h.trans (h'.mono h.size)
  refine region_by [(11, .is (.pointer (some ⟨B, 0, none⟩))), (12, .is (.pointer none)), (13, .is (fv none q)), (14, .is (nm (frontN q))), (15, .is (.int .u64 (n : Int))), (16, .is (nm (recN q (n)))), (17, .is (.tuple #[.slice none 0 0, .int .i64 6])), (10, .is (.tuple #[.slice none 0 0, .int .i64 6])), (18, .is (.slice none 0 0)), (19, .is (.int .i64 6)), (6, .is (.slice none 0 0)), (7, .is (.int .i64 6))] [7] (fun W => Below w1.heap.size w1 W) (by kernel_rfl) (by kernel_rfl) (by kernel_rfl) (by kernel_rfl) (by kernel_rfl) ((Below.refl _ _).drew) ?_ ?_
  · refine ⟨?c0, ?c1, ?c2, ?c3, ?c4, ?c5, ?c6, ?c7, ?c8, ?c9, ?c10, ?c11, trivial⟩
    case c0 => exact ask_field (guard_none rfl) _ (.tmp 2) 0 (.pointer (some ⟨B, 0, none⟩)) (.pointer (some ⟨B, 0, none⟩)) rfl rfl (by intro k hk; cases hk; rfl) (fun W => by kernel_rfl)
    case c1 => exact ask_load (guard_none rfl) _ (.tmp 11) (.pointer (some ⟨B, 0, none⟩)) (.pointer none) rfl rfl (by intro k hk; cases hk; rfl) (fun W hW => load_dp W _ _ (by rw [hW.cell (p := ⟨B, 0, none⟩) HBk1.out.lt, HBk1.out.cell]; rfl))
    case c2 => exact ask_load (guard_none rfl) _ (.tmp 2) (.pointer (some ⟨B, 0, none⟩)) (fv none q) rfl rfl (by intro k hk; cases hk; rfl) (fun W hW => load_files (HBk1.out.keep hW))
    case c3 => exact ask_call hG (guard_none rfl) _ _ _ #[fv none q] (.is (nm (frontN q))) rfl (by kernel_rfl) rfl rfl (by intro k hk; cases hk; rfl) (fun W hW => (front_any _ q (front_len hq).2.2 W).mono fun e w' h => ⟨_, h.1, rfl, h.2⟩)
    case c4 => exact ask_copy (guard_none rfl) (.tmp 1) (.inl rfl) (by intro k hk; cases hk; rfl)
    case c5 => exact ask_call hG (guard_none rfl) _ _ _ #[nm (frontN q), .int .u64 ((n : Nat) : Int)] (.is (nm (recN q (n)))) rfl (by kernel_rfl) rfl rfl (by intro k hk; cases hk; rfl) (fun W hW => (called_any _ (front_len hq).1 (n) HN100.out W).mono fun e w' h => by obtain ⟨h1, rfl⟩ := h; exact ⟨_, h1, rfl, Below.refl _ _⟩)
    case c6 => exact ask_call hG (guard_none rfl) _ _ _ #[.pointer none, nm (recN q n)] (.is (.tuple #[.slice none 0 0, .int .i64 6])) rfl (by kernel_rfl) rfl rfl (by intro k hk; cases hk; rfl) (fun W hW => (wread_nil (nm (recN q n)) W).mono fun e w' h => by obtain ⟨rfl, rfl⟩ := h; exact ⟨_, rfl, rfl, Below.refl _ _⟩)
    case c7 => exact ask_copy (guard_none rfl) (.tmp 17) (.inl rfl) (by intro k hk; cases hk; rfl)
    case c8 => exact ask_sat (guard_none rfl) (.is (.slice none 0 0)) (by intro k hk; cases hk; rfl) (fun x W hW hk => ⟨_, by have e1 : x 10 = (.tuple #[.slice none 0 0, .int .i64 6]) := hk 10 rfl; simp [execOp, evalBy, e1, go_sem], rfl⟩)
    case c9 => exact ask_sat (guard_none rfl) (.is (.int .i64 6)) (by intro k hk; cases hk; rfl) (fun x W hW hk => ⟨_, by have e1 : x 10 = (.tuple #[.slice none 0 0, .int .i64 6]) := hk 10 rfl; simp [execOp, evalBy, e1, go_sem], rfl⟩)
    case c10 => exact ask_copy (guard_none rfl) (.tmp 18) (.inr rfl) (by intro k hk; cases hk; rfl)
    case c11 => exact ask_copy (guard_none rfl) (.tmp 19) (.inr rfl) (by intro k hk; cases hk; rfl)
  · intro a' W hW hd' hs' hf'
    have t7 : a'.tmps.getD 7 undef = .int .i64 6 := hf' 7 rfl
    obtain ⟨us, hus, ha'⟩ := act_open 39 a' hs' hd'
    rw [← hus] at t7
    have el : ((List.range 39).map us).toArray = #[us 0, us 1, us 2, us 3, us 4, us 5, us 6, us 7, us 8, us 9, us 10, us 11, us 12, us 13, us 14, us 15, us 16, us 17, us 18, us 19, us 20, us 21, us 22, us 23, us 24, us 25, us 26, us 27, us 28, us 29, us 30, us 31, us 32, us 33, us 34, us 35, us 36, us 37, us 38] := rfl
    rw [el] at ha'
    subst ha'
    rw [t7]
    have HW := Lib.hid hW
    clear hus t7 el hf' hs' hd' hW
    have HB2 := Lib.hid (HB0.out.trans (HW.out.mono HB0.out.size))
    clear HW HB0 HBk1 HBB
    go_wp2_with fail
    refine (must_any 6 _).mono ?_
    rintro e w3 ⟨hm, rfl⟩
    obtain rfl := hm.2 (by decide)
    exact ⟨rfl, rfl, HB2.out⟩

theorem load_nf {W : World} {l : Nat} {q : Nm} {v1 v2 v3 : Value} (h : Blk W l 108 #[.pointer none, nm q, v1, v2, v3]) : (Instr.loadAt 106 (.pointer (some ⟨l, 0, none⟩))).run Tryz.prog W = .ok (.agg #[.pointer none, nm q]) W :=
  h.loadsAt 106 _ 0 0 [.pointer none, nm q] Tryz.underlying106 rfl (by kernel_rfl) (fun j u hj => by
    rw [Nat.zero_add]
    match j, hj with
    | 0, hj => simpa using hj
    | 1, hj => simpa using hj) rfl

theorem nlognext_any {w : World} {l : Nat} {q : Nm} (h : Blk w l 108 #[.pointer none, nm q, .int .u64 0, .slice none 0 0, .bool false]) :
    Calls Tryz.prog 30 #[.pointer (some ⟨l, 0, none⟩)] w fun e w' => e = .returned (.int .u64 0) ∧ ∃ m, w' = w.drewN m := by
  have c2 : w.cell? ⟨l, 2, none⟩ = some (.int .u64 0) := by rw [h.cell]; rfl
  have c3 : w.cell? ⟨l, 3, none⟩ = some (.slice none 0 0) := by rw [h.cell]; rfl
  clear h
  go_enter Tryz.func30, Tryz.ntmps30
  go_wp2
  go_quiet (fail)
  go_wp2
  go_ret
  exact ⟨rfl, _, rfl⟩

set_option maxHeartbeats 2000000 in
theorem nload_any {w : World} {l : Nat} {q : Nm} (hq : q.length ≤ 4) (h : Blk w l 108 #[.pointer none, nm q, .int .u64 0, .slice none 0 0, .bool false]) :
    Calls Tryz.prog 56 #[.pointer (some ⟨l, 0, none⟩)] w fun e w' => e = .panicked (gaveW 6) ∧ OnlyS (fun k => k = l) w w' ∧ Blk w' l 108 #[.pointer none, nm q, .int .u64 0, .slice none 0 0, .bool false] := by
  have HB := Lib.hid h
  have HQ := Lib.hid hq
  have c0 : w.cell? ⟨l, 0, none⟩ = some (.pointer none) := by rw [h.cell]; rfl
  have c1 : w.cell? ⟨l, 1, none⟩ = some (nm q) := by rw [h.cell]; rfl
  have f2 : w.frozen? ⟨l, 2, none⟩ = false := h.frozen 2
  have c2 : w.cell? ⟨l, 2, none⟩ = some (.int .u64 0) := by rw [h.cell]; rfl
  clear h hq
  go_enter Tryz.func56, Tryz.ntmps56
  go_wp2_with fail
  refine (nmarked_any q w).mono ?_
  rintro e w2 ⟨rfl, hb2⟩
  have hB2 := HB.out.keep hb2
  have cm2 : w2.cell? ⟨l, 2, none⟩ = some (.int .u64 0) := by rw [hB2.cell]; rfl
  have fm2 : w2.frozen? ⟨l, 2, none⟩ = false := hB2.frozen 2
  have hB3 : Blk (w2.setCell ⟨l, 2, none⟩ (.int .u64 0)) l 108 #[.pointer none, nm q, .int .u64 0, .slice none 0 0, .bool false] := Blk.set hB2 2 _
  have ho3 : OnlyS (fun k => k = l) w (w2.setCell ⟨l, 2, none⟩ (.int .u64 0)) := (OnlyS.of_below (S := fun k => k = l) hb2 fun k hk _ => hk).setCell (p := ⟨l, 2, none⟩) (fun _ => rfl) _
  have HB3 := Lib.hid hB3
  have HO3 := Lib.hid ho3
  clear hb2 c0 c1 c2 f2 HB hB2 hB3 ho3
  go_wp2
  go_loopw [] (fun wr => wr = w2.setCell ⟨l, 2, none⟩ (.int .u64 0)) (fun _ => 0)
  case atStart => exact rfl
  case round =>
    subst hrel
    obtain ⟨wr, hwr⟩ : ∃ wr, wr = w2.setCell ⟨l, 2, none⟩ (.int .u64 0) := ⟨_, rfl⟩
    rw [← hwr] at HB3 HO3 ⊢
    clear hwr cm2 fm2
    have hG : ∀ W W' : World, Below wr.heap.size wr W → Below W.heap.size W W' → Below wr.heap.size wr W' := fun W W' h h' => h.trans (h'.mono h.size)
    go_upto_region 1 with fail
    refine region_dies_by 6 [(13, .is (.pointer (some ⟨l, 0, none⟩))), (14, .is (.pointer (some ⟨l, 0, none⟩))), (15, .is (.pointer (some ⟨l, 0, none⟩))), (16, .is (fv none q)), (17, .is (.pointer (some ⟨l, 0, none⟩))), (18, .is (.int .u64 0))] (fun W => Below wr.heap.size wr W) (gaveW 6) (by kernel_rfl) (by kernel_rfl) (by kernel_rfl) (by kernel_rfl) (by kernel_rfl) (by decide) (by kernel_rfl) ((Below.refl _ _).drew) ?_ _ rfl rfl _ _ _ #[fv none q, .int .u64 0] rfl (by kernel_rfl) rfl rfl ?_ ?_
    · refine ⟨?c0, ?c1, ?c2, ?c3, ?c4, ?c5, trivial⟩
      case c0 => exact ask_copy (guard_none rfl) (.tmp 0) (.inl rfl) (by intro k hk; cases hk; rfl)
      case c1 => exact ask_exec (guard_none rfl) (.pointer (some ⟨l, 0, none⟩)) rfl rfl (by intro k hk; cases hk; rfl) (fun W hW => by kernel_rfl)
      case c2 => exact ask_field (guard_none rfl) _ (.tmp 14) 0 (.pointer (some ⟨l, 0, none⟩)) (.pointer (some ⟨l, 0, none⟩)) rfl rfl (by intro k hk; cases hk; rfl) (fun W => by kernel_rfl)
      case c3 => exact ask_load (guard_none rfl) _ (.tmp 15) (.pointer (some ⟨l, 0, none⟩)) (fv none q) rfl rfl (by intro k hk; cases hk; rfl) (fun W hW => load_nf (HB3.out.keep hW))
      case c4 => exact ask_copy (guard_none rfl) (.tmp 0) (.inl rfl) (by intro k hk; cases hk; rfl)
      case c5 => exact ask_call hG (guard_none rfl) _ _ _ #[(.pointer (some ⟨l, 0, none⟩))] (.is (.int .u64 0)) rfl (by kernel_rfl) rfl rfl (by intro k hk; cases hk; rfl) (fun W hW => (nlognext_any (HB3.out.keep hW)).mono fun e w' h => by obtain ⟨h1, m, rfl⟩ := h; exact ⟨_, h1, rfl, below_dn (Below.refl _ _) m⟩)
    · exact fun W hW => (nread_any HQ.out 0 (by decide) W).mono fun e w' h => ⟨h.1, hG _ _ hW h.2⟩
    · intro a' W hW hd' hs'
      exact ⟨hd', rfl, HO3.out.then (OnlyS.of_below (S := fun _ => False) hW fun k hk _ => hk) fun k _ h => h.elim, HB3.out.keep hW⟩

set_option maxHeartbeats 1000000 in
theorem nOpen_any {q : Nm} (hq : wnB q = true) (w : World) :
    Calls Tryz.prog 25 #[.pointer none, nm q] w fun e w' => e = .returned (.tuple #[.pointer none, .int .i64 6]) ∧ Below w.heap.size w w' := by
  have hwn := (wnB_wn q).1 hq
  have h1 := wisName_any q w (by have := hwn.2.1; omega)
  rw [hq] at h1
  have H1 := Lib.hid h1
  have HQ := Lib.hid hwn.2.1
  have hmf : ∀ (fn : Fn) (first cap : Array Value) (w : World), (Instr.makeFunc fn first cap).run Tryz.prog w = .ok (.func fn first cap) w := fun _ _ _ _ => rfl
  obtain ⟨QN, hQN⟩ : ∃ QN : ByteArray, QN = ⟨q.toArray⟩ := ⟨_, rfl⟩
  have eQ : nm q = .string QN := by rw [hQN]; rfl
  have HEQ := Lib.hid eQ
  rw [eQ] at H1 ⊢
  clear h1 hq hwn hQN eQ
  go_enter Tryz.func25, Tryz.ntmps25
  go_wp2_with fail
  refine H1.out.mono ?_
  rintro e w' ⟨rfl, rfl⟩
  go_wp2_with fail
  have hb0 : Below w.heap.size w (w.alloc (.cells #[.pointer none, .string QN, .int .u64 0, .slice none 0 0, .bool false] 108)) := (Below.refl _ _).alloc (Nat.le_refl _) _
  have hk0 := Blk.new w 108 #[.pointer none, .string QN, .int .u64 0, .slice none 0 0, .bool false]
  obtain ⟨w0, hw0⟩ : ∃ w0, w0 = w.alloc (.cells #[.pointer none, .string QN, .int .u64 0, .slice none 0 0, .bool false] 108) := ⟨_, rfl⟩
  rw [← hw0] at hb0 hk0 ⊢
  have hs0 : w0.heap.size = w.heap.size + 1 := by rw [hw0]; simp
  obtain ⟨l, hl⟩ : ∃ l, l = w.heap.size := ⟨_, rfl⟩
  rw [← hl] at hk0 ⊢
  rw [← HEQ.out] at hk0
  have HB0 := Lib.hid hb0
  have HK0 := Lib.hid hk0
  have HLl : Hid (l = w.heap.size ∧ w0.heap.size = l + 1) := by
    show l = w.heap.size ∧ w0.heap.size = l + 1
    omega
  refine (wattempt_any 56 #[.pointer (some ⟨l, 0, none⟩)] #[] (fun args w => by kernel_rfl) l w0 (by omega)
    (fun c0 w2 => c0 = 6 ∧ OnlyS (fun k => k = l) w0 w2) (fun w1 hb1 hs1 => ?_)).mono ?_
  · refine (nload_any HQ.out (HK0.out.keep hb1)).mono ?_
    rintro e w2 ⟨rfl, h2, h3⟩
    have hll := HLl.out
    exact ⟨6, ⟨fun h => absurd h (by decide), fun _ => rfl⟩, ⟨rfl, (OnlyS.of_below (S := fun k => k = l) hb1 fun k hk _ => hk).then h2 fun k _ h => h⟩, h2.size, h2.block _ (by omega) (by omega), _, h3, rfl⟩
  · clear hb0 hk0 hw0 hs0 hl
    rintro e w2 ⟨c0, w3, ⟨rfl, h2⟩, rfl, h4, h5, -⟩
    have hll := HLl.out
    have hfin : Below w.heap.size w w2 := by
      refine HB0.out.trans ?_
      refine ((h2.then h5 fun k h6 h7 => ?_).below (S := fun k => k = l) (fun k hk => by omega) (by omega))
      rcases h7 with h7 | h7
      · omega
      · exact h7.2.2
    have HFin := Lib.hid hfin
    have e6 : ((said 6 : Nat) : Int) = 6 := rfl
    rw [e6]
    clear e6 hfin h2 h4 h5
    go_wp2
    go_ret2
    exact ⟨rfl, HFin.out⟩

theorem rNamed_any (n : Nm) (w : World) (hn : n.length ≤ 9223372036854775807) : Calls Tryz.prog 28 #[nm n] w fun e w' => e = .returned (.bool (wnB n)) ∧ w = w' := by
  obtain ⟨S, hS⟩ : ∃ S : ByteArray, nm n = .string S := ⟨_, rfl⟩
  have hsz : S.size = n.length := by
    unfold nm at hS
    cases hS
    show n.toArray.size = _
    simp
  have hget : ∀ (i : Nat) (h : i < S.size) (h' : i < n.length), (S[i]'h).toNat = (n[i]'h').toNat := fun i h h' => by
    unfold nm at hS
    cases hS
    rfl
  rw [hS]
  obtain ⟨L, hL⟩ : ∃ L, L = n.length := ⟨_, rfl⟩
  rw [← hL] at hsz hn
  have HL := Lib.hid hL
  clear hL
  go_enter Tryz.func28, Tryz.ntmps28
  go_wp2
  go_loop [3] (fun s3 => ∃ i : Nat, i ≤ L ∧ s3 = .int .i64 i ∧ (n.take i).all lowC = true) (fun s3 => L - (intOf s3).toNat)
  case atStart => exact ⟨0, Nat.zero_le _, rfl, rfl⟩
  case round =>
    obtain ⟨i, hi, rfl, hall⟩ := hrel
    have HAll := Lib.hid hall
    clear hall
    by_cases hlt : i < L
    · have i0 : (0 : Int) ≤ (i : Int) := Int.natCast_nonneg _
      have i1 : (i : Int) < (L : Int) := by omega
      have hin : i < n.length := by have := HL.out; omega
      have hbad : lowC n[i] = false → wnB n = false := fun h => by
        unfold wnB
        rw [Bool.and_eq_false_iff]
        right
        rw [List.all_eq_false]
        exact ⟨n[i], List.getElem_mem _, by rw [h]; simp⟩
      have hgood : lowC n[i] = true → (n.take (i + 1)).all lowC = true := fun h => by
        rw [List.take_succ_eq_append_getElem hin, List.all_append, HAll.out]
        simp [h]
      have HBad := Lib.hid hbad
      have HGood := Lib.hid hgood
      have HG := Lib.hid (hget i (by omega) hin)
      clear hbad hgood
      go_wp2
      all_goals try
        (refine ⟨⟨i + 1, by omega, by go_num, HGood.out ?_⟩, by simp [intOf]; omega⟩
         have h := HG.out
         unfold lowC
         simp only [Bool.and_eq_true, decide_eq_true_eq] at *
         omega)
      all_goals
        refine bodyPost_ret (v := .bool false) (by simp [results, Tryz.results28, go_sem]) rfl ⟨?_, rfl⟩
        have h := HG.out
        rw [HBad.out (by unfold lowC; simp only [Bool.and_eq_false_iff, decide_eq_false_iff_not] at *; omega)]
    · obtain rfl : i = L := by omega
      have hall := HAll.out
      rw [List.take_of_length_le (by have := HL.out; omega)] at hall
      have hr : wnB n = (decide (1 ≤ (i : Int)) && decide ((i : Int) ≤ 4)) := by
        have := HL.out
        unfold wnB
        rw [hall, Bool.and_true, ← HL.out]
        congr 1
        · simp only [decide_eq_decide]; omega
        · simp only [decide_eq_decide]; omega
      have HR := Lib.hid hr
      clear hr hget hall
      by_cases a1 : 1 ≤ (i : Int)
      · by_cases a2 : (i : Int) ≤ 4
        · have b1 : decide (1 ≤ (i : Int)) = true := by simpa using a1
          have b2 : decide ((i : Int) ≤ 4) = true := by simpa using a2
          rw [b1, b2] at HR
          go_wp2
          exact bodyPost_ret (v := .bool true) (by simp [results, Tryz.results28, go_sem]) rfl ⟨by rw [HR.out]; rfl, rfl⟩
        · have b1 : decide (1 ≤ (i : Int)) = true := by simpa using a1
          have b2 : decide ((i : Int) ≤ 4) = false := by simpa using a2
          rw [b1, b2] at HR
          go_wp2
          exact bodyPost_ret (v := .bool false) (by simp [results, Tryz.results28, go_sem]) rfl ⟨by rw [HR.out]; rfl, rfl⟩
      · have b1 : decide (1 ≤ (i : Int)) = false := by simpa using a1
        rw [b1] at HR
        go_wp2
        exact bodyPost_ret (v := .bool false) (by simp [results, Tryz.results28, go_sem]) rfl ⟨by rw [HR.out]; rfl, rfl⟩
end Go.Proofs.YthaggdkfaglgaaaGreatDoor

/- What every law of layer 9 asks first. -/
namespace Go.Proofs.YthaggdkfaglgaaaGreatDoor
set_option maxRecDepth 20000
open Go.RowKit Go.Maps DiskMath WalMath FrameMath Reg

theorem may_nil (q : Nm) : May q [] 0 [] 0 where
  rise := List.Pairwise.nil
  own := fun p hp => by cases hp
  mark := fun n _ => ⟨fun h => by simp [getA] at h, fun h => by omega⟩
  has := fun i t h => by simp at h
  part := fun i t u h => by simp at h
  free := fun n _ _ => rfl
  lo := Nat.le_refl _
  lim := by simp
  long := fun t h => by cases h

def nS : St := (openA [97] (St.new 1073741824) 0 0).2
theorem nS_said : (openA [97] (St.new 1073741824) 0 0).1 = 0 := by decide +kernel
theorem nS_said2 : (layA [97] nS (0 + ([] : List (List UInt8)).length) [120]).1 = 0 := by decide +kernel

theorem tab_pos {w : World} (ht : Tab w) : 0 < w.heap.size := World.block_lt_of_cell? w _ (ht 0 (by decide))
theorem err_lt {w : World} (he : Err w) : 2 < w.heap.size := by
  obtain ⟨te, pe, hce⟩ := he
  exact World.block_lt_of_cell? w _ hce

set_option maxHeartbeats 1000000 in
theorem wawake_any {w : World} (ht : Tab w) (he : Err w) : Calls Tryz.prog 11 #[] w fun e w' => e = .returned (.bool true) ∧ Below w.heap.size w w' := by
  have h0 := tab_pos ht
  have h2 := err_lt he
  have HTab := Lib.hid ht
  have HErr := Lib.hid he
  have H0 := Lib.hid h0
  have H2 := Lib.hid h2
  clear ht he h0 h2
  go_enter Tryz.func11, Tryz.ntmps11
  go_wp2_with fail
  refine (new_any w 1073741824).mono ?_
  rintro e w1 ⟨d, rfl, hd, hb1⟩
  have HB1 := Lib.hid hb1
  have HD := Lib.hid hd
  clear hb1 hd
  go_wp2_with fail
  refine (Open_any (q := [97]) (f := 0) (lo := 0) (R := []) (by decide) HD.out (by omega) rfl (may_nil [97]) (HTab.out.below (Nat.le_refl _) HB1.out) (fun h => by have := H0.out; omega) (HErr.out.below HB1.out) (fun h => by have := H2.out; have := h.1; omega)).mono ?_
  rintro e w2 ⟨j, l, c1, hj, -, -, hc1, h⟩
  obtain rfl : j = 0 := by simpa using hj
  obtain ⟨-, rfl, hp⟩ := h.resolve_right (fun hh => hh.1 nS_said)
  have hp1 : PNx w1 (fun k => w.heap.size ≤ k ∧ k < w1.heap.size) d l c1 [97] nS 0 [] false w2 := hp
  have hb2 : Below w.heap.size w w2 := HB1.out.trans (hp1.only.below (fun k hk h => by omega) HB1.out.size)
  have HP1 := Lib.hid hp1.pr
  have HB2 := Lib.hid hb2
  have HC1 := Lib.hid hc1
  have hS2 : ∀ k, more w1 (fun k => w.heap.size ≤ k ∧ k < w1.heap.size) w2 k → w.heap.size ≤ k := fun k hk => by
    have := HB1.out.size
    rcases hk with hk | hk
    · exact hk.1
    · omega
  have HS2 := Lib.hid hS2
  clear hp hp1 hb2 hc1 hS2 HD hj
  have kc := fun (w : World) (C : Array Value) (n c : Nat) => Lib.run_convert_bytes_const (P := Tryz.prog) w 27 5 C n c Tryz.underlying27 Tryz.underlying5
  go_wp2_with fail
  clear kc
  have hb3 : Below w2.heap.size w2 (w2.alloc (.cells #[.int .u8 120] 5 (1, 2))) := (Below.refl _ _).alloc (Nat.le_refl _) _
  have hx : Bys (w2.alloc (.cells #[.int .u8 120] 5 (1, 2))) (.slice (some ⟨w2.heap.size, 0, none⟩) 1 1) [120] := .inr ⟨_, _, rfl, fun i hi => by
    rw [addr_add, Nat.zero_add, World.cell?_alloc_mark]
    obtain rfl : i = 0 := by simp at hi; omega
    rfl⟩
  have hap := wAppend_any (q := [97]) (r := [120]) (by decide) (HP1.out.below hb3) (by have := HC1.out; omega) (by simp) hx rfl (by omega) (fun k hk hs => by
    simp [Value.ownBlock] at hk
    subst hk
    exact absurd (HP1.out.lt _ hs) (Nat.lt_irrefl _)) ((HTab.out.below (Nat.le_refl _) HB2.out).below (Nat.le_refl _) hb3) (fun h => by have := HS2.out 0 h; have := H0.out; omega)
  rw [nS_said2] at hap
  have HAp := Lib.hid hap
  have HB3 := Lib.hid (HB2.out.trans (hb3.mono HB2.out.size))
  clear hap hb3 hx
  refine HAp.out.mono ?_
  rintro e w3 ⟨rfl, c2, hc2, hp2⟩
  have hp3 : PNx (w2.alloc (.cells #[.int .u8 120] 5 (1, 2))) (more w1 (fun k => w.heap.size ≤ k ∧ k < w1.heap.size) w2) d l c2 [97] (layA [97] nS (0 + ([] : List (List UInt8)).length) [120]).2 0 [[120]] false w3 := hp2
  have HP3 := Lib.hid hp3.pr
  have HB4 := Lib.hid (HB3.out.trans (hp3.only.below (fun k hk h => by have := HS2.out k h; omega) HB3.out.size))
  have e0 : ((said 0 : Nat) : Int) = 0 := rfl
  rw [e0]
  clear HAp hp2 hp3 e0 hc2
  go_wp2_with fail
  obtain ⟨a, c', hb, -, hlim⟩ := HP3.out.log
  have HN := Lib.hid (wnext_any hb (by decide))
  clear hb hlim
  refine HN.out.mono ?_
  rintro e w4 ⟨rfl, m, rfl⟩
  have HP4 := Lib.hid (HP3.out.below (below_dn (Below.refl _ _) m))
  have HB5 := Lib.hid (below_dn HB4.out m)
  obtain ⟨w4, hw4⟩ : ∃ w4, w4 = w3.drewN m := ⟨_, rfl⟩
  rw [← hw4] at HP4 HB5 ⊢
  have e1 : (((0 + [([120] : List UInt8)].length : Nat)) : Int) = 1 := rfl
  rw [e1]
  clear hw4 HN HP3 HB4 e1
  go_wp2_with fail
  have hg := wGet_some HP4.out 0 [120] rfl (by decide)
  have HG := Lib.hid hg
  clear hg
  refine HG.out.mono ?_
  rintro e w5 ⟨v, rfl, hr, hb6⟩
  have hcv := conv_bys hr.bys
  have HB6 := Lib.hid (HB5.out.trans (hb6.mono HB5.out.size))
  clear hr hb6
  go_wp2
  go_ret
  exact ⟨rfl, HB6.out⟩
end Go.Proofs.YthaggdkfaglgaaaGreatDoor

/- The table that the rows list: what it gives a walk, and a world that holds it. -/
namespace Go.Proofs.YthaggdkfaglgaaaGreatDoor
set_option maxRecDepth 20000
open Go.ChangeShapes Go.WideShapes Go.ChangeAt Go.RowKit CrcMath

theorem gTab : Tryz.prog.globalNamed "tabellion/crc.halves" = some 0 := by kernel_rfl
theorem gTabType : (Tryz.prog.globals[0]?).map (·.type) = some 260 := by kernel_rfl
theorem cellsTab : Tryz.prog.cellsOf 260 = 16 := by kernel_rfl
theorem cellsU32 : Tryz.prog.cellsOf 229 = 1 := by kernel_rfl

def halves : List Int := [0, 274646895, 549293790, 820201905, 1098587580, 1361435347, 1640403810, 1905808397, 2197175160, 2460548119, 2722870694, 2987750089, 3280807620, 3553878443, 3811616794, 4084100981]

theorem halves_T (j : Nat) (h : j < 16) : halves.getD j 0 = rv (T j) := by
  have : ∀ j : Fin 16, halves.getD j.val 0 = rv (T j.val) := by decide +kernel
  exact this ⟨j, h⟩

/-- What the rows' list gives. -/
theorem tab_of {W : World} (h : laidMetH Tryz.prog [("tabellion/crc.halves", Rows.laid_tabellion_crc_halves)] W) : Tab W := by
  have ht : Lib.TabIs Tryz.prog W "tabellion/crc.halves" .u32 halves := Lib.tabIs_of_head (rest := []) gTab gTabType Tryz.underlying260 Tryz.underlying229 cellsU32 cellsTab h
  intro j hj
  rw [← halves_T j hj]
  exact ht.cell gTab j hj

/-- A world that holds the table. -/
noncomputable def laidWorld (os : Os) : World :=
  { World.holding Tryz.prog os ⟨#[], #[], []⟩ with heap := (World.holding Tryz.prog os ⟨#[], #[], []⟩).heap.modify 0 fun
      | .cells _ t frozen => .cells (halves.map fun z => Value.int .u32 z).toArray t frozen
      | o => o }

end Go.Proofs.YthaggdkfaglgaaaGreatDoor

/- What the rows of layer 9 list: what it gives a walk, and a world that holds it. -/
namespace Go.Proofs.YthaggdkfaglgaaaGreatDoor
set_option maxRecDepth 20000
open Go.ChangeShapes Go.WideShapes Go.ChangeAt Go.RowKit CrcMath

abbrev laid9 : List (String × DataW Unit) := [("math/bits.deBruijn32tab", Rows.laid_math_bits_deBruijn32tab), ("math/bits.deBruijn64tab", Rows.laid_math_bits_deBruijn64tab), ("internal/strconv.uint64pow10", Rows.laid_internal_strconv_uint64pow10), ("tabellion/crc.halves", Rows.laid_tabellion_crc_halves), ("strconv.ErrRange", Rows.laid_strconv_ErrRange), ("strconv.ErrSyntax", Rows.laid_strconv_ErrSyntax)]

theorem gSyn : Tryz.prog.globalNamed "strconv.ErrSyntax" = some 2 := by kernel_rfl
theorem gSynType : (Tryz.prog.globals[2]?).map (·.type) = some 225 := by kernel_rfl
theorem cellsErr : Tryz.prog.cellsOf 287 = 1 := by kernel_rfl
theorem cellsStr : Tryz.prog.cellsOf 9 = 1 := by kernel_rfl
theorem starErr : "*" ++ "errors.errorString" = "*errors.errorString" := by decide
theorem rowErr (u : TypeId) (h : Tryz.prog.typeName? 3 u = some "*errors.errorString") : u = 285 :=
  typeName_ptr_named (nm := "errors.errorString") (by rw [starErr]; kernel_rfl) (by kernel_rfl) (by decide) u (by rw [starErr]; exact h)

theorem tab9_of {W : World} (h : laidMetH Tryz.prog laid9 W) : Tab W := by
  have h1 : laidMet Tryz.prog laid9 W := h
  have h2 := h1.tail.tail.tail
  have ht : Lib.TabIs Tryz.prog W "tabellion/crc.halves" .u32 halves := Lib.tabIs_of_head gTab gTabType Tryz.underlying260 Tryz.underlying229 cellsU32 cellsTab h2
  intro j hj
  rw [← halves_T j hj]
  exact ht.cell gTab j hj

theorem err9_of {W : World} (h : laidMetH Tryz.prog laid9 W) : Err W := by
  have h1 : laidMet Tryz.prog laid9 W := h
  have h2 := h1.tail.tail.tail.tail.tail
  obtain ⟨a0, s0, hv0, -⟩ := laid_sentinel h2 gSyn gSynType Tryz.underlying225 rowErr Tryz.underlying285 Tryz.underlying287 rfl rfl Tryz.underlying9 cellsErr cellsStr
  exact ⟨_, _, by simpa using World.var?_cell gSyn hv0 0⟩

def bruijn32 : List Int := [0, 1, 28, 2, 29, 14, 24, 3, 30, 22, 20, 15, 25, 17, 4, 8, 31, 27, 13, 23, 21, 19, 16, 7, 26, 12, 18, 6, 11, 5, 10, 9]
def bruijn64 : List Int := [0, 1, 56, 2, 57, 49, 28, 3, 61, 58, 42, 50, 38, 29, 17, 4, 62, 47, 59, 36, 45, 43, 51, 22, 53, 39, 33, 30, 24, 18, 12, 5, 63, 55, 48, 27, 60, 41, 37, 16, 46, 35, 44, 21, 52, 32, 23, 11, 54, 26, 40, 15, 34, 20, 31, 10, 25, 14, 19, 9, 13, 8, 7, 6]
def pow10 : List Int := (List.range 20).map fun k => ((10 ^ k : Nat) : Int)
def synS : ByteArray := { data := #[105, 110, 118, 97, 108, 105, 100, 32, 115, 121, 110, 116, 97, 120] }
def rngS : ByteArray := { data := #[118, 97, 108, 117, 101, 32, 111, 117, 116, 32, 111, 102, 32, 114, 97, 110, 103, 101] }
noncomputable def low9 : Nat := (World.holding Tryz.prog default ⟨#[], #[], []⟩).heap.size

noncomputable def setG (h : Array Obj) (g : Nat) (vs : Array Value) : Array Obj := h.modify g fun
  | .cells _ t frozen => .cells vs t frozen
  | o => o

/-- A world that holds what the rows list. -/
noncomputable def laidWorld9 (os : Os) : World :=
  let w0 := World.holding Tryz.prog os ⟨#[.cells #[.string rngS] 287, .cells #[.string synS] 287], #[], []⟩
  { w0 with heap := setG (setG (setG (setG (setG (setG w0.heap 0 (halves.map fun z => Value.int .u32 z).toArray) 1 (pow10.map fun z => Value.int .u64 z).toArray) 2 #[.iface 285 (.pointer (some ⟨low9 + 1, 0, none⟩))]) 3 #[.iface 285 (.pointer (some ⟨low9, 0, none⟩))]) 4 (bruijn32.map fun z => Value.int .u8 z).toArray) 5 (bruijn64.map fun z => Value.int .u8 z).toArray }

theorem laid9_met (os : Os) (args : Array Value) : laidMet Tryz.prog laid9 ((laidWorld9 os).forCall (fun _ _ => 0) ⟨#[], args, []⟩).memory :=
  laidMet_of_run' 20 (by kernel_rfl) (by kernel_rfl)
end Go.Proofs.YthaggdkfaglgaaaGreatDoor

