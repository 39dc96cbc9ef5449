/- write: bytes laid over a file's. -/
import Derived.Test.YtboongdoggggoaaDiskFiles
import Derived.Deep.DeepCutAuto
namespace Go.Proofs.Ytboongdoggggoaa
set_option maxRecDepth 20000
open Go.RowKit Go.Maps DiskMath

theorem Bys.same {w w' : World} {v : Value} {l : List UInt8} (h : Bys w v l) (hk : ∀ k, v.ownBlock = some k → w'.heap[k]? = w.heap[k]?) : Bys w' v l := by
  rcases h with h | ⟨ad, cap, hv, hc⟩
  · exact .inl h
  · subst hv
    refine .inr ⟨ad, cap, rfl, fun i hi => ?_⟩
    have hb : (ad.add i).block = ad.block := by unfold Addr.add; split <;> rfl
    rw [World.cell?_of_block (w := w) (by rw [hb]; exact hk _ rfl)]
    exact hc i hi

/-- 'copy(v[a:], b)'. -/
theorem lay_over {w : World} {B : Nat} {v : Value} {t : List UInt8} (h : Row w B v t) {a : Nat} (ha : a ≤ t.length) {ab : Option Addr} {lb cb : Nat} {b : List UInt8} (hb : Bys w (.slice ab lb cb) b) (hlb : b.length = lb) :
    ∃ sv, (∀ W, (Instr.sliceAt 22 v (some (.int .i64 (a : Int))) none none).run Try.prog W = .ok sv W) ∧
      ∃ w', (Builtin.copy_ #[22, 22] 3 #[sv, .slice ab lb cb]).run Try.prog w = .ok (.int .i64 ((min (t.length - a) lb : Nat) : Int)) w' ∧
        (Row w' B v (t.take a ++ b.take (min (t.length - a) lb) ++ t.drop (a + min (t.length - a) lb)) ∧ OnlyS (fun k => v.ownBlock = some k) w w') := by
  have hty : Try.prog.underlying 22 = some (.slice (Try.prog.elem 22)) := by rw [elem_bytes]; exact Try.underlying22
  obtain ⟨q, hq⟩ : ∃ q, q = min (t.length - a) lb := ⟨_, rfl⟩
  rw [← hq]
  have none_case : ∀ (sa : Option Addr) (sc : Nat), q = 0 → t.length - a = 0 → (Builtin.copy_ #[22, 22] 3 #[.slice sa 0 sc, .slice ab lb cb]).run Try.prog w = .ok (.int .i64 ((q : Nat) : Int)) w := by
    intro sa sc h0 h1
    have := run_copy_none (P := Try.prog) w 22 22 3 5 sa ab 0 sc lb cb Try.underlying22 (by kernel_rfl) (by simp)
    rw [this, h0]
    rfl
  rcases h.2 with ⟨rfl, h0⟩ | ⟨g, cap, cur, rfl, hB, hg, hn, hm, hs, ht⟩
  · obtain rfl := List.eq_nil_of_length_eq_zero h0
    simp at ha
    subst ha
    have hq0 : q = 0 := by simp at hq; omega
    refine ⟨.slice none 0 0, fun W => ?_, w, none_case _ _ hq0 (by simp), by rw [hq0]; simpa using h, OnlyS.refl _ _⟩
    rw [run_sliceAt_slice _ _ _ _ _ _ hty, run_slice_l _ _ _ _ _ hty .i64 ((0 : Nat) : Int) (by omega) (by omega), elem_bytes, size_byte]
    simp [Result.andThen, sliced]
  · refine ⟨sliced (some ⟨g, 0, none⟩) a t.length cap 1, fun W => ?_, ?_⟩
    · rw [run_sliceAt_slice _ _ _ _ _ _ hty, run_slice_l _ _ _ _ _ hty .i64 (a : Int) (by omega) (by omega), elem_bytes, size_byte]
      simp [Result.andThen]
    · by_cases hz : t.length - a = 0
      · have hq0 : q = 0 := by omega
        have ha2 : a = t.length := by omega
        refine ⟨w, ?_, ?_, OnlyS.refl _ _⟩
        · unfold sliced
          rw [hz]
          exact none_case _ _ hq0 hz
        · rw [hq0]
          simpa [List.take_append_drop] using h
      · have hcap : ¬ cap = a := by omega
        have e1 : sliced (some ⟨g, 0, none⟩) a t.length cap 1 = .slice (some ⟨g, a, none⟩) (t.length - a) (cap - a) := by
          unfold sliced
          rw [if_neg hcap]
          simp [addr_add]
        rw [e1]
        rcases hb with ⟨e, rfl⟩ | ⟨ad, c, e, hc⟩
        · simp at e
          obtain ⟨rfl, rfl, rfl⟩ := e
          have hq0 : q = 0 := by omega
          refine ⟨w, ?_, by rw [hq0]; simpa [List.take_append_drop] using h, OnlyS.refl _ _⟩
          have := run_copy_nil (P := Try.prog) w 22 22 3 5 ⟨g, a, none⟩ (t.length - a) (cap - a) Try.underlying22 (by kernel_rfl)
          rw [this, hq0]
          rfl
        · simp at e
          obtain ⟨rfl, rfl, rfl⟩ := e
          have hql : (b.take q).length = q := by rw [List.length_take]; omega
          have hcp := run_copy_row (P := Try.prog) w 22 22 3 5 g a (t.length - a) (cap - a) ad b.length cb cur 5 ((b.take q).map bv) Try.underlying22 (by kernel_rfl) hg
            (by rw [List.length_map, hql, hq, Nat.min_comm])
            (fun j u hj => by
              rw [List.getElem?_map] at hj
              obtain ⟨x, hx, rfl⟩ := Option.map_eq_some_iff.1 hj
              obtain ⟨hj1, hx⟩ := List.getElem?_eq_some_iff.1 hx
              rw [hql] at hj1
              rw [hc j (by omega), ← hx]
              simp)
            (by rw [List.length_map, hql]; omega) (one_bv _)
          rw [List.length_map, hql] at hcp
          refine ⟨_, hcp, ?_, ⟨rfl, rfl, rfl, by simp, fun k hk hne => setRow_other w g k _ fun e => hne (by simp [Value.ownBlock, e])⟩⟩
          have hlen : (t.take a ++ b.take q ++ t.drop (a + q)).length = t.length := by
            simp only [List.length_append, List.length_take, List.length_drop]
            omega
          refine ⟨by rw [List.length_map, Nat.mul_one], .inr ⟨g, cap, _, by rw [hlen], hB, setRow_heap w g cur _ 5 _ hg, by rw [hlen]; exact hn, hm, ?_, ?_⟩⟩
          · simp only [List.size_toArray, List.length_append, List.length_take, List.length_drop, Array.length_toList, List.length_map]
            omega
          · rw [hlen]
            simp only [Nat.mul_one] at ht ⊢
            rw [List.map_append, List.map_append, List.map_take, List.map_take, List.map_drop, ← ht]
            apply List.ext_getElem?
            intro i
            have hcl : cur.toList.length = cap := by rw [Array.length_toList]; omega
            have hbl : ((b.map bv).take q).length = q := by rw [← List.map_take, List.length_map, hql]
            simp only [List.getElem?_append, List.getElem?_take, List.length_append, List.length_take, hcl, List.length_map, List.getElem?_drop]
            repeat' split
            all_goals first | (exfalso; omega) | rfl | (congr 1; omega) | skip

/-- What a write leaves. -/
theorem lay_eq (t : List UInt8) (a : Nat) (b : List UInt8) (hb : b ≠ []) (t1 : List UInt8) (h1 : t1 = t ++ List.replicate (a - t.length) 0) (q : Nat) (hq : q = min (t1.length - a) b.length) :
    t1.take a ++ b.take q ++ t1.drop (a + q) ++ b.drop q = layT t a b := by
  have hl : t1.length = max t.length a := by rw [h1]; simp; omega
  have hbl : 0 < b.length := List.length_pos_iff.2 hb
  unfold layT
  rw [if_neg hb, ← h1]
  by_cases h : q = b.length
  · have h2 : t1 = t := by rw [h1, show a - t.length = 0 by omega]; simp
    rw [h, List.drop_length, List.append_nil, List.take_length, h2]
  · have h3 : q = t1.length - a := by omega
    rw [List.drop_of_length_le (l := t1) (i := a + q) (by omega), List.drop_of_length_le (l := t) (i := a + b.length) (by omega), List.append_nil, List.append_nil, List.append_assoc, List.take_append_drop]

theorem wpList_append_by2 {P : Program} {w : World} {ops : Array Oper} {rest : List Oper} {o : Oper} {a : Act} {Q : Exit → Act → World → Prop} (hgd : o.guard = none) (s x : Operand) (t t' : TypeId)
    (ho : o.op = .call { callee := .builtin .append, args := #[s, x], argTypes := #[t, t'] }) (v y : Value) (hs : a.eval s = v) (hx : a.eval x = y) (R : Value → World → Prop)
    (hr : ∃ v' w', (Builtin.append_ #[t, t'] o.type #[v, y]).run P w = .ok v' w' ∧ R v' w')
    (h : ∀ v' w', R v' w' → wpList P ops Q rest (a.put o.dst v') w') : wpList P ops Q (o :: rest) a w := by
  obtain ⟨v', w', hrun, hR⟩ := hr
  refine wpList_plain hgd fun K hK => ?_
  unfold Oper.wp
  simp [execOp, ho, resolve, invoke, builtin, hs, hx, hrun, Result.andThen]
  exact hK _ _ (h v' w' hR)

theorem wpList_copy_into {P : Program} {w : World} {ops : Array Oper} {rest : List Oper} {o : Oper} {a : Act} {Q : Exit → Act → World → Prop} (hgd : o.guard = none) (s x : Operand) (t : TypeId)
    (ho : o.op = .call { callee := .builtin .copy, args := #[s, x], argTypes := #[t, t] }) (v y c : Value) (hs : a.eval s = v) (hx : a.eval x = y) (R : World → Prop)
    (hr : ∃ w', (Builtin.copy_ #[t, t] o.type #[v, y]).run P w = .ok c w' ∧ R w') (h : ∀ w', R w' → wpList P ops Q rest (a.put o.dst c) w') : wpList P ops Q (o :: rest) a w := by
  obtain ⟨w', hrun, hR⟩ := hr
  exact wpList_copy_by hgd s x t ho v y c w' hs hx hrun (h w' hR)

theorem near_apart {w : World} {m : Nat} {F : Gf} (h : Keep w m F) {n : Nm} {v' : Value} (hv : Near w (vOf n F) v') : ∀ p ∈ F, p.1 ≠ n → Apart v' p.2.1 := fun p hp hne k hk hk2 => by
  rcases hv k hk with h1 | h1
  · exact vOf_apart h n p hp hne k h1 hk2
  · have := ((h.row p hp).lt hk2).2
    omega

set_option maxHeartbeats 2000000 in
theorem fwrite_any {w : World} {d o m : Nat} {F : Gf} {n : Nm} {a : Nat} {ab : Option Addr} {lb cb : Nat} {b : List UInt8} {cs : Array Value} (hb : Blk w d 123 cs) (h0 : cs[o]? = some (.map (some m))) (h1 : cs[o + 1]? = some (.int .i64 (tot (pr F) : Int)))
    (hk : Keep w m F) (hn : n.length ≤ 16) (hf : Fit (pr F)) (hl : F.length ≤ 4095) (ha : a ≤ 1048576) (hbb : Bys w (.slice ab lb cb) b) (hlb : b.length = lb) (hlc : lb ≤ cb) (hb4 : lb ≤ 4194304) (hap : ∀ k, foot F k → (Value.slice ab lb cb).ownBlock ≠ some k) :
    Calls Try.prog 123 #[fp d o, nm n, .int .i64 (a : Int), .slice ab lb cb] w fun e w' => e = .returned (.tuple #[]) ∧ ∃ v', Keep w' m (putA n (v', layT ((getA n (pr F)).getD []) a b) F) ∧ Near w (vOf n F) v' ∧
      Blk w' d 123 (cs.setIfInBounds (o + 1) (.int .i64 (tot (putA n (layT ((getA n (pr F)).getD []) a b) (pr F)) : Int))) ∧ OnlyS (fun k => k = d ∨ k = m ∨ (vOf n F).ownBlock = some k) w w' := by
  have hrow := vOf_row hk n
  have hlen := fit_get hf n
  have hn2 : n.length ≤ 9223372036854775807 := by omega
  have hlk := look hk hn2
  obtain ⟨A, C, hvo⟩ := slice_of_row hrow
  have hlay := fit_lay hf n ha (by rw [hlb]; exact hb4 : b.length ≤ 4194304)
  have hxl : vOf n F = vOf n F → True := fun _ => trivial
  clear hxl
  obtain ⟨t, ht⟩ : ∃ t, t = (getA n (pr F)).getD [] := ⟨_, rfl⟩
  rw [← ht] at hrow hlen hvo hlay ⊢
  rw [hvo] at hlk hrow
  have c0 : w.cell? ⟨d, o, none⟩ = some (.map (some m)) := by rw [Blk.cell hb]; exact h0
  have HRow := Lib.hid hrow
  have HK := Lib.hid hk
  have HB := Lib.hid hb
  have HF := Lib.hid hf
  have HFl := Lib.hid hl
  have HN := Lib.hid hn2
  have HN16 := Lib.hid hn
  have HBb := Lib.hid hbb
  have HT := Lib.hid ht
  have HLay := Lib.hid hlay
  have HAp := Lib.hid hap
  have H0 := Lib.hid h0
  have H1 := Lib.hid h1
  have HLb := Lib.hid hlb
  have HVo := Lib.hid hvo
  have HC := Lib.hid hlc
  obtain ⟨N, hN⟩ : ∃ N, N = nm n := ⟨_, rfl⟩
  rw [← hN] at hlk ⊢
  have HNe := Lib.hid hN
  obtain ⟨L, hL⟩ : ∃ L, L = t.length := ⟨_, rfl⟩
  rw [← hL] at hlk HRow HVo hlen
  have HL := Lib.hid hL
  -- what set gives, in whatever world
  have hset : ∀ (W : World) (v' : Value), OnlyS (fun k => (vOf n F).ownBlock = some k) w W → Row W 0 v' (layT t a b) → Near w (vOf n F) v' →
      Calls Try.prog 125 #[fp d o, N, v'] W fun e w' => e = .returned (.tuple #[]) ∧ ∃ v', Keep w' m (putA n (v', layT t a b) F) ∧ Near w (vOf n F) v' ∧
        Blk w' d 123 (cs.setIfInBounds (o + 1) (.int .i64 (tot (putA n (layT t a b) (pr F)) : Int))) ∧ OnlyS (fun k => k = d ∨ k = m ∨ (vOf n F).ownBlock = some k) w w' := by
    intro W v' hO hR hN'
    have hnd : ∀ k, (vOf n F).ownBlock = some k → k ≠ d := fun k hk' e => row_ne_blk (vOf_row HK.out n) HB.out (by decide) (by rw [hk', e])
    have hnm : ∀ k, (vOf n F).ownBlock = some k → k ≠ m := fun k hk' e => HK.out.ne (vOf_row HK.out n) (by rw [hk', e])
    have hb' : Blk W d 123 cs := HB.out.only hO fun e => hnd d e rfl
    have hkb : KeepBut (some n) W m F := (HK.out.but (some n)).sameX (hO.block m HK.out.lt fun e => hnm m e rfl) fun p hp hX k hkk => hO.block k ((HK.out.row p hp).lt hkk).2 fun e => vOf_apart HK.out n p hp (fun e' => hX (by rw [e'])) k e hkk
    rw [HNe.out]
    refine (set_any hb' H0.out H1.out hkb HN.out HF.out (Nat.le_trans HFl.out (by omega)) HK.out.long hR HLay.out (near_apart HK.out hN')).mono ?_
    rintro e w' ⟨rfl, r1, r2, r3⟩
    refine ⟨rfl, v', r1, hN', ?_, (hO.mono fun k _ h => .inr (.inr h)).then r3 fun k _ h => ?_⟩
    · rw [pr_put] at r2
      exact r2
    · rcases h with h | h
      · exact .inl h
      · exact .inr (.inl h)
  have HSet := Lib.hid hset
  clear hb hk hn hn2 hf hl hbb hap ht hrow hlay h0 h1 hN hL hset hlb hvo
  by_cases hbz : b = []
  · have hz : lb = 0 := by rw [← HLb.out, hbz]; rfl
    subst hz
    go_enter Try.func123, Try.ntmps123
    go_wp2_with fail
    refine (HSet.out w (.slice A L C) (OnlyS.refl _ _) (by have h := HRow.out; unfold layT; rw [if_pos hbz]; exact h) (by rw [HVo.out]; exact near_refl _ _)).mono ?_
    rintro e w' ⟨rfl, h⟩
    go_wp2
    go_end0
    exact ⟨rfl, h⟩
  · have hbp : 0 < lb := by rw [← HLb.out]; exact List.length_pos_iff.2 hbz
    obtain ⟨z, hz⟩ : ∃ z, z = a - L := ⟨_, rfl⟩
    have hmax : ∀ (ts : Array TypeId) (ty : TypeId) (W : World), (Builtin.max_ ts ty #[.int .i64 ((a : Int) - L), .int .i64 0]).run Try.prog W = .ok (.int .i64 (z : Int)) W := fun ts ty W => by
      have e : ((if (0 : Int) > (a : Int) - L then 0 else (a : Int) - L) : Int) = (z : Int) := by omega
      rw [run_max_int2, e]
    have A1 := Lib.hid (append_zeros (B := 0) (Nat.zero_le _) HRow.out z (by rw [← HL.out]; omega))
    have HZ := Lib.hid hz
    have HBz := Lib.hid hbz
    clear hz hbz
    go_enter Try.func123, Try.ntmps123
    go_upto_region 3 with (at_builtin; refine wpList_append_by2 rfl _ _ 22 3 rfl _ _ rfl rfl _ A1.out ?_; rintro v1 w1 ⟨hr1, ho1, hn1⟩; (have HR1 := Lib.hid hr1); (have HO1 := Lib.hid ho1); (have HN1 := Lib.hid hn1); clear hr1 ho1 hn1)
    have hbne : ∀ k, (Value.slice ab lb cb).ownBlock = some k → (Value.slice A L C).ownBlock ≠ some k := fun k h1 h2 => HAp.out k (vOf_foot (by rw [HVo.out]; exact h2)) h1
    have hbb1 : Bys w1 (.slice ab lb cb) b := HBb.out.same fun k hk => by
      rcases Nat.lt_or_ge k w.heap.size with h | h
      · exact HO1.out.block k h (hbne k hk)
      · exfalso
        rcases HBb.out with ⟨e, _⟩ | ⟨ad, cap, e, hc⟩
        · rw [e] at hk; simp [Value.ownBlock] at hk
        · rw [e] at hk
          simp [Value.ownBlock] at hk
          have := World.block_lt_of_cell? w _ (hc 0 (by rw [HLb.out]; exact hbp))
          rw [add_block] at this
          omega
    have hv1b : ∀ k, (Value.slice ab lb cb).ownBlock = some k → k < w.heap.size := fun k hk => by
      rcases HBb.out with ⟨e, _⟩ | ⟨ad, cap, e, hc⟩
      · rw [e] at hk; simp [Value.ownBlock] at hk
      · rw [e] at hk
        simp [Value.ownBlock] at hk
        have := World.block_lt_of_cell? w _ (hc 0 (by rw [HLb.out]; exact hbp))
        rw [add_block] at this
        omega
    obtain ⟨t1, ht1⟩ : ∃ t1, t1 = t ++ List.replicate z 0 := ⟨_, rfl⟩
    have hr1 := HR1.out
    rw [← ht1] at hr1
    have ht1l : t1.length = max L a := by rw [ht1]; simp; have := HL.out; have := HZ.out; omega
    obtain ⟨sv, hsl, hcp⟩ := lay_over hr1 (a := a) (by omega) hbb1 HLb.out
    obtain ⟨q, hq⟩ : ∃ q, q = min (t1.length - a) lb := ⟨_, rfl⟩
    rw [← hq] at hcp
    have hql : q ≤ lb := by omega
    have HCp := Lib.hid hcp
    have HQ := Lib.hid hq
    have HT1 := Lib.hid ht1
    have HT1l := Lib.hid ht1l
    have HR1' := Lib.hid hr1
    have HB1 := Lib.hid hbb1
    have HV1 := Lib.hid hv1b
    have HBne := Lib.hid hbne
    clear hcp hq ht1 ht1l hr1 hbb1 hv1b hbne HR1 A1 hmax hlk
    go_upto_region 4 with (refine wpList_copy_into rfl _ _ 22 rfl _ _ _ rfl rfl _ HCp.out ?_; rintro w2 ⟨hr2, ho2⟩; (have HR2 := Lib.hid hr2); (have HO2 := Lib.hid ho2); clear hr2 ho2)
    have hv1ne : ∀ k, (Value.slice ab lb cb).ownBlock = some k → v1.ownBlock ≠ some k := fun k h1 h2 => by
      rcases HN1.out k h2 with h | h
      · exact HBne.out k h1 h
      · have := HV1.out k h1
        omega
    have hbb2 : Bys w2 (.slice ab lb cb) b := HB1.out.same fun k hk => HO2.out.block k (Nat.lt_of_lt_of_le (HV1.out k hk) HO1.out.size) (hv1ne k hk)
    obtain ⟨a', hsl2, hby⟩ := bys_from ab lb cb q b w2 hbb2 HLb.out HC.out hql
    have A3 := Lib.hid (append_at (B := 0) (Nat.zero_le _) HR2.out hby (by
      simp only [List.length_append, List.length_take, List.length_drop]
      have := HLb.out
      have := HT1l.out
      omega))
    clear hsl HCp hby
    go_wp2_with (at_builtin; refine wpList_append_by2 rfl _ _ 22 22 rfl _ _ rfl rfl _ A3.out ?_; rintro v3 w3 ⟨hr3, ho3, hn3⟩; (have HR3 := Lib.hid hr3); (have HO3 := Lib.hid ho3); (have HN3 := Lib.hid hn3); clear hr3 ho3 hn3)
    have hO : OnlyS (fun k => (vOf n F).ownBlock = some k) w w3 := by
      rw [HVo.out]
      have hlt : ∀ i, i < w.heap.size → v1.ownBlock = some i → (Value.slice A L C).ownBlock = some i := fun i hi h => by
        rcases HN1.out i h with h | h
        · exact h
        · omega
      exact (HO1.out.then HO2.out hlt).then HO3.out hlt
    have hrow3 : Row w3 0 v3 (layT t a b) := by
      have h := HR3.out
      rw [lay_eq t a b HBz.out t1 (by rw [HT1.out, HZ.out, HL.out]) q (by rw [HQ.out, HLb.out])] at h
      exact h
    have hN3 : Near w (vOf n F) v3 := by
      rw [HVo.out]
      exact HN1.out.trans HO1.out.size (fun k hk => by
        rcases HN3.out k hk with h | h
        · exact .inl h
        · exact .inr (Nat.le_trans HO2.out.size h))
    have HK3 := Lib.hid (HSet.out w3 v3 hO hrow3 hN3)
    clear hO hrow3 hN3
    refine HK3.out.mono ?_
    rintro e w' ⟨rfl, h⟩
    go_wp2
    go_end0
    exact ⟨rfl, h⟩
end Go.Proofs.Ytboongdoggggoaa
