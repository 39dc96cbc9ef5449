/- Joined: MsgMemb, MsgRefList. -/
import Derived.Test.YtgbhfolbkgibfaaKAS
import Derived.Test.YtgbhfolbkgibfaaKAK
import Derived.Test.YtgbhfolbkgibfaaKAO
import Derived.Test.YtgbhfolbkgibfaaKAL
/- Layer 18: members that go through a hand. -/
namespace Go.Proofs.Ytgbhfolbkgibfaa
set_option maxRecDepth 20000
open Go.RowKit Go.Maps BinMath CmdMath
open MsgMath (Mg Hand fillE fillN idsH membersH withinH)

/-- How much k calls of a hand may lay down. -/
def grew : Nat → Nat
  | 0 => 0
  | k + 1 => grew k + 20000
theorem grew_le : ∀ (n k : Nat), k ≤ n → grew k ≤ grew n
  | n, 0, _ => Nat.zero_le _
  | 0, k + 1, h => absurd h (by omega)
  | n + 1, k + 1, h => Nat.add_le_add_right (grew_le n k (by omega)) 20000

def isNums (X : Nat → Prop) (B : Nat) (ms : List Nat) (y : Value) (w : World) (U : Nat → Prop) : Prop := Stay w (fun k => U k ∨ X k) B (fun W => Nums W y ms) ∧ (∀ x ∈ ms, x < 18446744073709551616) ∧ ms.length ≤ 7

/-- In the midst of the members: those that went through, and those that are left. -/
structure NAt (H : Hand) (z : List UInt8 → Nat) (I : World → (Nat → Prop) → List UInt8 → Prop) (U : Nat → Prop) (l : List UInt8) (w : World) (g n : Nat) (res : Except Nat (List Nat × List UInt8)) (d rest : List Nat) (U' : Nat → Prop) (l' : List UInt8) (wr : World) : Prop where
  len : d.length + rest.length = n
  blk : Blk wr g 31 ((d ++ rest).map uv).toArray
  hand : I wr U' l'
  gu : ¬ U' g
  only : OnlyS U w wr
  sub : ∀ k, U' k → U k ∨ w.heap.size ≤ k
  okd : ∀ x ∈ d, x < 18446744073709551616
  okr : ∀ x ∈ rest, x < 18446744073709551616
  ll : z l' ≤ z l + grew (d.length + 1)
  res : res = idsH H d rest l'

section
variable {H : Hand} {t : TypeId} {v r : Value} {fo fn ft fe : FuncId} {G B : Nat} {z : List UInt8 → Nat} {I : World → (Nat → Prop) → List UInt8 → Prop}

theorem NAt.next (hp : HandP H t v r fo fn ft fe G B z I) {U U' U2 : Nat → Prop} {l l' q : List UInt8} {w wr w4 w5 : World} {g n x y : Nat} {res : Except Nat (List Nat × List UInt8)} {d rest : List Nat} (h : NAt H z I U l w g n res d (x :: rest) U' l' wr)
    (hg : w.heap.size ≤ g) (hG : G ≤ g) (hr : H.number x l' = .ok (y, q)) (hy : y < 18446744073709551616) (ho : OnlyS U' wr w4) (hI : I w4 U2 q) (hU : ∀ k, U2 k → U' k ∨ wr.heap.size ≤ k) (hq : z q ≤ z l' + 20000) (hm : memOk (d ++ [y]) = true)
    (e5 : w5 = w4.setCell ⟨g, d.length, none⟩ (.int .u64 (y : Int))) : NAt H z I U l w g n res (d ++ [y]) rest U2 q w5 := by
  subst e5
  have hgl := h.blk.lt
  have hos : OnlyS (fun b => b = g) w4 (w4.setCell ⟨g, d.length, none⟩ (.int .u64 (y : Int))) := (OnlyS.refl (fun b => b = g) _).setCell (p := ⟨g, d.length, none⟩) (fun _ => rfl) _
  have hg2 : ¬ U2 g := fun e => by
    rcases hU g e with e | e
    · exact h.gu e
    · omega
  have hb4 := h.blk.onlyS ho h.gu
  refine ⟨?_, ?_, hp.keep hI hos (fun k _ e => by have e : k = g := e; subst e; exact ⟨hG, hg2⟩), hg2, ?_, fun k hk => ?_, fun z hz => ?_, fun z hz => h.okr z (List.mem_cons_of_mem _ hz), ?_, ?_⟩
  · have := h.len
    simp only [List.length_cons, List.length_append, List.length_nil] at this ⊢
    omega
  · have hs := hb4.set d.length (uv y)
    have e : (((d ++ x :: rest).map uv).toArray).setIfInBounds d.length (uv y) = ((d ++ [y] ++ rest).map uv).toArray := by
      apply Array.ext'
      simp
    rw [e] at hs
    exact hs
  · refine (h.only.then ho (fun k hk hu => ?_)).then hos (fun k hk e => by have e : k = g := e; omega)
    exact (h.sub k hu).resolve_right (by omega)
  · rcases hU k hk with hk | hk
    · exact h.sub k hk
    · exact .inr (Nat.le_trans h.only.size hk)
  · rcases List.mem_append.1 hz with hz | hz
    · exact h.okd z hz
    · rw [List.mem_singleton.1 hz]; exact hy
  · rw [List.length_append]
    exact Nat.le_trans hq (Nat.le_trans (Nat.add_le_add_right h.ll 20000) (Nat.le_of_eq (Nat.add_assoc _ _ _)))
  · rw [h.res, idsH, MsgMath.bindP_ok hr, if_pos hm]

set_option maxHeartbeats 4000000 in
theorem hmembers_any (hp : HandP H t v r fo fn ft fe G B z I) {w : World} {U : Nat → Prop} {l : List UInt8} (X : Nat → Prop) (vm : Value) (ids : List Nat) (hI : I w U l) (hX : ∀ k, X k → k < w.heap.size) (hm : Stay w (fun k => U k ∨ X k) B (fun W => Nums W vm ids)) (hlen : ids.length ≤ 140737488351232) (hok : ∀ x ∈ ids, x < 18446744073709551616) (hl : z l ≤ 900000000000) :
    Calls Try.prog 53 #[.iface t v, vm] w (HEnd 200000 z I U l w (membersH H ids l) (isNums X B)) := by
  obtain ⟨i0, hi, hz0, hz1, hz2⟩ := info_parts info_num
  obtain ⟨a, cap, rfl⟩ := hm.now.shape
  obtain ⟨L, hL⟩ : ∃ L, L = ids.length := ⟨_, rfl⟩
  rw [← hL] at hm ⊢
  have hLl : L ≤ 140737488351232 := by omega
  have hlt := hp.lt hI
  have HN := Lib.hid (within_any hp L 1 7 hI (by omega) (by omega))
  have HLen := Lib.hid hL
  have HM := Lib.hid hm
  have HOk := Lib.hid hok
  have HX := Lib.hid hX
  have HLt := Lib.hid hlt
  have mn := hp.mn
  have en := hp.en
  have HLl := Lib.hid hl
  have hcv := fun W => conv_len L (by omega) W
  clear hI hm hlen hlt hX hok hL hl
  cases hr : withinH H L 1 7 l with
  | error c =>
    have HE := Lib.hid (show membersH H ids l = .error c by rw [membersH, ← HLen.out]; exact MsgMath.bindP_err hr)
    have HR := Lib.hid hr
    clear hr
    go_enter Try.func53, Try.ntmps53
    go_wp2_with fail
    refine HN.out.mono ?_
    intro e w1 h
    obtain ⟨ho, hc, rfl⟩ := h.err HR.out
    exact ⟨rfl, HEnd.bad HE.out ho hc⟩
  | ok p =>
    obtain ⟨n, q⟩ := p
    have HE := Lib.hid (show membersH H ids l = idsH H [] (fillN n ids) q by rw [membersH, ← HLen.out, MsgMath.bindP_ok hr])
    have HR := Lib.hid hr
    clear hr
    go_enter Try.func53, Try.ntmps53
    go_wp2_with fail
    refine HN.out.mono ?_
    intro e w1 h
    obtain ⟨y, U1, rfl, ho, ⟨rfl, -, hn1, hn7⟩, hI1, hU1, hq⟩ := h.ok HR.out
    have HV := Lib.hid ((HM.out.step ho (fun k _ hu => .inl hu) (Y' := fun k => U k ∨ X k) (fun k _ hu => hu)).now)
    have HO := Lib.hid ho
    have HI := Lib.hid hI1
    have HU := Lib.hid hU1
    have HQ := Lib.hid hq
    have hsz : w.heap.size ≤ w1.heap.size := ho.size
    clear h ho hI1 hU1 hq
    obtain ⟨g, hg⟩ : ∃ g, g = w1.heap.size := ⟨_, rfl⟩
    have HGq := Lib.hid hg
    clear hg
    go_wp2_with (first
      | (at_make; refine wpList_make_blk rfl _ _ 33 rfl 31 i0 (.int .u64 0) 1 Try.underlying33 hi hz0 hz1 _ _ n rfl rfl (by rw [hz2]; omega) (by unfold maxLen; omega) ((List.replicate n 0).map uv) (made_nums n) ?_; intro w2 hb2 hw2; rw [← HGq.out] at hb2 ⊢; (have HB2 := Lib.hid hb2); (have HW2 := Lib.hid hw2); (have HV2 := Lib.hid (HV.out.below (Nat.le_refl _) hw2)); clear hb2 hw2)
      | (refine wpList_copy_blk rfl (.tmp 16) (.tmp 17) 33 33 rfl 31 Try.underlying33 1 (by kernel_rfl) (by decide) g n n a L cap rfl rfl ((List.replicate n 0).map uv) HB2.out ((ids.take n).map uv) (by rw [List.length_map, List.length_take, ← HLen.out, Nat.mul_one, Nat.min_comm]) (HV2.out.cellsTo n) (by rw [List.length_map, List.length_map, List.length_take, List.length_replicate]; omega) (fun u hu => by obtain ⟨z, -, rfl⟩ := List.mem_map.1 hu; rfl) ((fillN n ids).map uv) (fill_nums n ids) ?_; intro w3 hb3 hw3; (have HB3 := Lib.hid hb3); (have HW3 := Lib.hid hw3); clear hb3 hw3))
    have hg := HGq.out
    have hgw : w.heap.size ≤ g := by omega
    have hGg : G ≤ g := by have := HLt.out.2.1; omega
    have hBg : B ≤ g := by have := HLt.out.2.2; omega
    have hU1g : ¬ U1 g := fun e => by have := (hp.lt HI.out).1 g e; omega
    have h0 : NAt H z I U l w g n (membersH H ids l) [] (fillN n ids) U1 q w3 := by
      refine ⟨by rw [MsgMath.fillN_len]; simp, by rw [List.nil_append]; exact HB3.out, ?_, hU1g, ?_, HU.out, by simp, fun x hx => ?_, HQ.out, HE.out⟩
      · refine hp.keep (hp.keep (V := fun _ => False) HI.out (OnlyS.of_below HW2.out fun k hk _ => hk) (fun k _ e => e.elim)) HW3.out (fun k _ e => by have e : k = g := e; subst e; exact ⟨hGg, hU1g⟩)
      · exact (HO.out.then (OnlyS.of_below (S := fun _ => False) HW2.out fun k hk _ => hk) (fun k _ e => e.elim)).then HW3.out (fun k hk e => by have e : k = g := e; omega)
      · rcases List.mem_append.1 (List.mem_of_mem_take hx) with hx | hx
        · exact HOk.out x hx
        · rw [(List.mem_replicate.1 hx).2]; decide
    have H0 := Lib.hid h0
    clear h0 hg HGq HB3 HW3 HB2 HW2 HV2 HV HO HI HU HQ hU1g HN
    go_wp2
    go_loopw [21] (fun s21 wr => ∃ (d rest : List Nat) (U' : Nat → Prop) (l' : List UInt8), s21 = .int .i64 (d.length : Int) ∧ NAt H z I U l w g n (membersH H ids l) d rest U' l' wr) (fun s21 _ => n - (intOf s21).toNat)
    case atStart => exact ⟨[], fillN n ids, U1, q, rfl, H0.out⟩
    case round =>
      clear H0
      obtain ⟨d, rest, U', l', rfl, hat⟩ := hrel
      have HAt := Lib.hid hat
      obtain ⟨i, hi'⟩ : ∃ i, i = d.length := ⟨_, rfl⟩
      rw [← hi']
      have HIl := Lib.hid hi'
      cases rest with
      | nil =>
        have hin : i = n := by have := hat.len; simp at this; omega
        subst hin
        have hres := hat.res
        have hbl := hat.blk
        rw [List.append_nil] at hbl
        have hd : d.length ≤ 7 := by omega
        have HG := Lib.hid (HEnd.good (D := 200000) (z := z) (l := l) (val := isNums X B) (x := d) (y := .slice (some ⟨g, 0, none⟩) i i) (show membersH H ids l = .ok (d, l') from hres) hat.only ⟨fun W hW => by
            have hb : Blk W g 31 (d.map uv).toArray := by
              have h2 := hW g hBg hbl.lt (fun e => e.elim hat.gu fun e => by have := HX.out g e; omega)
              unfold Blk at *
              rw [h2]
              exact hbl
            have h3 := hb.nums hi'.symm (Nat.le_refl i)
            rwa [List.take_of_length_le (by omega)] at h3, hat.okd, hd⟩ hat.hand hat.sub (by have h1 := hat.ll; have h2 := grew_le 8 (d.length + 1) (by omega); have h3 : grew 8 = 160000 := rfl; omega))
        clear hat hres hbl hd hi' HAt HIl
        go_wp2
        go_ret
        exact HG.out
      | cons x rest =>
        have hin : i < n := by have := hat.len; simp at this; omega
        have hgl := hat.blk.lt
        have hx64 := hat.okr x List.mem_cons_self
        have HN2 := Lib.hid (hp.number x hat.hand hx64 (by have h1 := hat.ll; have h2 := grew_le 8 (d.length + 1) (by omega); have h3 : grew 8 = 160000 := rfl; have := HLl.out; omega))
        have k0 : wr.cell? ⟨g, i, none⟩ = some (.int .u64 (x : Int)) := by
          rw [hat.blk.cell]
          simp [hi', uv]
        cases hx : H.number x l' with
        | error c =>
          have HR2 := Lib.hid hx
          have HE2 := Lib.hid (show membersH H ids l = .error c by rw [hat.res, idsH]; exact MsgMath.bindP_err hx)
          clear hat hx hi'
          go_wp2_with fail
          refine HN2.out.mono ?_
          intro e w4 h
          obtain ⟨ho, hc, rfl⟩ := h.err HR2.out
          exact ⟨rfl, HEnd.bad HE2.out (HAt.out.only.then ho (fun k hk hu => (HAt.out.sub k hu).resolve_right (by omega))) hc⟩
        | ok p =>
          obtain ⟨y, q2⟩ := p
          have HR2 := Lib.hid hx
          clear hat hx hi'
          go_wp2_with fail
          refine HN2.out.mono ?_
          intro e w4 h
          obtain ⟨y', U2, rfl, ho, ⟨rfl, hy⟩, hI2, hU2, hq2⟩ := h.ok HR2.out
          have hb4 := HAt.out.blk.onlyS ho HAt.out.gu
          have hcell : w4.cell? ⟨g, i, none⟩ = some (.int .u64 (x : Int)) := by
            rw [hb4.cell]
            simp [HIl.out, uv]
          have hfree : w4.frozen? ⟨g, i, none⟩ = false := hb4.frozen i
          have hnat := fun hm => HAt.out.next hp hgw hGg HR2.out hy ho hI2 hU2 hq2 hm rfl
          rw [← HIl.out] at hnat
          have HNat := Lib.hid hnat
          have hos4 := HAt.out.only.then ho (fun k hk hu => (HAt.out.sub k hu).resolve_right (by omega))
          have HO5 := Lib.hid (hos4.then ((OnlyS.refl (fun b => b = g) w4).setCell (p := ⟨g, i, none⟩) (fun _ => rfl) (.int .u64 (y : Int))) (fun k hk e => by have e : k = g := e; omega))
          have hnums : Nums (w4.setCell ⟨g, i, none⟩ (.int .u64 (y : Int))) (.slice (some ⟨g, 0, none⟩) (i + 1) n) (d ++ [y]) := by
            have hs := hb4.set i (uv y)
            have e : (((d ++ x :: rest).map uv).toArray).setIfInBounds i (uv y) = ((d ++ [y] ++ rest).map uv).toArray := by
              apply Array.ext'
              simp [HIl.out]
            rw [e] at hs
            have h3 := hs.nums (n := n) (k := i + 1) (by have := HAt.out.len; simp only [List.length_append, List.length_cons, List.length_nil] at this ⊢; omega) (by omega)
            rwa [List.take_left' (by simp [HIl.out])] at h3
          have hokd : ∀ z ∈ d ++ [y], z < 18446744073709551616 := fun z hz => by
            rcases List.mem_append.1 hz with hz | hz
            · exact HAt.out.okd z hz
            · rw [List.mem_singleton.1 hz]; exact hy
          have HMe := Lib.hid (members_any _ _ _ hnums (by simp only [List.length_append, List.length_cons, List.length_nil]; have := HIl.out; omega) hokd)
          have hsl : ∀ W, (Instr.sliceAt 33 (.slice (some ⟨g, 0, none⟩) n n) none (some (.int .i64 ((i : Int) + 1))) none).run Try.prog W = .ok (.slice (some ⟨g, 0, none⟩) (i + 1) n) W := fun W => by
            have h := slice_nums_to (some ⟨g, 0, none⟩) n n (i + 1) (by omega) W
            simpa using h
          have HRes := Lib.hid HAt.out.res
          have HDl := Lib.hid HIl.out
          clear h ho hy hI2 hU2 hq2 hb4 hnat hos4 hnums hokd k0 HAt HN2
          by_cases hmo : memOk (d ++ [y]) = true
          · have HMo := Lib.hid hmo
            rw [hmo] at HMe
            clear hmo
            go_wp2_with fail
            refine HMe.out.mono ?_
            rintro e w6 ⟨rfl, rfl⟩
            go_wp2_with fail
            refine (mask_yes 3 _).mono ?_
            rintro e w6 ⟨rfl, rfl⟩
            clear hcell hfree hsl
            go_wp2
            go_round
            case rel => exact ⟨d ++ [y], rest, U2, q2, by rw [List.length_append, ← HDl.out]; go_num, HNat.out HMo.out⟩
            case measure => simp [intOf]; omega
          · have HE2 := Lib.hid (show membersH H ids l = .error 3 by rw [HRes.out, idsH, MsgMath.bindP_ok HR2.out, if_neg hmo]; rfl)
            rw [show memOk (d ++ [y]) = false by simpa using hmo] at HMe
            clear hmo
            go_wp2_with fail
            refine HMe.out.mono ?_
            rintro e w6 ⟨rfl, rfl⟩
            go_wp2_with fail
            refine (mask_no 3 (by decide) _).mono ?_
            rintro e w6 ⟨rfl, rfl⟩
            exact ⟨rfl, HEnd.bad HE2.out HO5.out (by decide)⟩
end
end Go.Proofs.Ytgbhfolbkgibfaa

/- Layer 12's reference: lists of entries. -/
namespace Go.Proofs.Ytgbhfolbkgibfaa
set_option maxRecDepth 20000
open Go.RowKit BinMath CmdMath

/-- Lists of entries that are one up to i. -/
def entsTo (a b : List EE) (i : Nat) : Prop := (a.take i).map EE.e = (b.take i).map EE.e

theorem entsTo_next {a b : List EE} {i : Nat} {x y : EE} (h : entsTo a b i) (hx : a[i]? = some x) (hy : b[i]? = some y) (he : x.e = y.e) : entsTo a b (i + 1) := by
  unfold entsTo at *
  obtain ⟨h1, h2⟩ := List.getElem?_eq_some_iff.1 hx
  obtain ⟨h3, h4⟩ := List.getElem?_eq_some_iff.1 hy
  rw [List.take_succ_eq_append_getElem h1, List.take_succ_eq_append_getElem h3, List.map_append, List.map_append, h, h2, h4]
  simp [he]

theorem ask_indexM {P : Program} {ops : Array Oper} {tab : List (List Nat)} {fin : List Tmp} {K : World → Prop} {f : Tmp → Fact} {i : Nat} {o : Oper} (hg : guardOk ops f o) (ty : TypeId) (s t : Operand) (v x c : Value) (ho : o.op = .indexAddr ty s t) (hs : opFact f s = .is v) (ht : opFact f t = .is x)
    (hd : ∀ k, o.dst = some k → f k = .is c) (hr : ∀ W, (Instr.indexAt ty v x).run P W = .ok c W) : Asked P ops tab fin K f i o := by
  refine ask_val hg c hd fun y W _ hk => ?_
  have e1 := evalBy_opVal hk s (by rw [ho]; simp [Op.operands]) hs
  have e2 := evalBy_opVal hk t (by rw [ho]; simp [Op.operands]) ht
  simp only [execOp, ho, e1, e2, Sem.run_bind, hr W, Result.andThen_ok, Sem.run_pure]

theorem ix_ent (W : World) (ad : Addr) (n c i : Nat) (hi : i < n) : (Instr.indexAt 32 (.slice (some ad) n c) (.int .i64 (i : Int))).run Try.prog W = .ok (.pointer (some (ad.add (i * 6)))) W := by
  have he : Try.prog.elem 32 = 62 := by kernel_rfl
  have hs : (Go.sizeOf 62).run Try.prog W = .ok 6 W := by kernel_rfl
  have ht : Try.prog.underlying 32 = some (.slice (Try.prog.elem 32)) := by rw [he]; exact Try.underlying32
  rw [run_indexAt_slice (h := ht), if_pos (by omega), he, hs]
  simp [Result.andThen]

def ListAt (us vs : List EE) (w : World) (s5 : Value) (wr : World) : Prop :=
  ∃ i, i ≤ us.length ∧ s5 = .int .i64 ((i : Nat) : Int) ∧ entsTo us vs i ∧ Below w.heap.size w wr

set_option maxHeartbeats 2000000 in
theorem refList_any (va vb : Value) (us vs : List EE) (w : World) (ha : Els w va us) (hb : Els w vb vs) (hha : HasAll w us) (hhb : HasAll w vs) (hl : us.length ≤ 140737488351232) :
    Calls Try.prog 33 #[va, vb] w fun r w' => r = .returned (.bool (decide (us.map EE.e = vs.map EE.e))) ∧ Below w.heap.size w w' := by
  obtain ⟨a, ca, rfl⟩ := ha.form
  obtain ⟨b, cb, rfl⟩ := hb.form
  obtain ⟨n, hn⟩ : ∃ n, n = us.length := ⟨_, rfl⟩
  by_cases hlen : us.length = vs.length
  · have hm : n = vs.length := by omega
    rw [← hn] at ha hl
    rw [← hm] at hb
    rw [← hn, ← hm]
    have HA := Lib.hid ha
    have HB := Lib.hid hb
    have HHA := Lib.hid hha
    have HHB := Lib.hid hhb
    have HN := Lib.hid hn
    have HM := Lib.hid hm
    have HStart := Lib.hid (show ListAt us vs w (.int .i64 0) w from ⟨0, Nat.zero_le _, rfl, rfl, Below.refl _ _⟩)
    clear ha hb hha hhb hn hm hlen
    go_enter Try.func33, Try.ntmps33
    go_wp2
    go_loopw [5] (fun s5 wr => ListAt us vs w s5 wr) (fun s5 _ => n - (intOf s5).toNat)
    case atStart => exact HStart.out
    case round =>
      obtain ⟨i, hi, rfl, he, hbw⟩ := hrel
      have hin : i ≤ n := by have := HN.out; omega
      have HBw := Lib.hid hbw
      have HE := Lib.hid he
      clear hi he hbw HStart
      by_cases hlt : i < n
      · obtain ⟨x, hx⟩ : ∃ x, us[i]? = some x := ⟨us[i]'(by have := HN.out; omega), List.getElem?_eq_getElem _⟩
        obtain ⟨y, hy⟩ : ∃ y, vs[i]? = some y := ⟨vs[i]'(by have := HM.out; omega), List.getElem?_eq_getElem _⟩
        obtain ⟨ad, rfl, hca⟩ := (HA.out.below (Nat.le_refl _) HBw.out).load hx
        obtain ⟨bd, rfl, hcb⟩ := (HB.out.below (Nat.le_refl _) HBw.out).load hy
        have LX := Lib.hid (fun W (hW : Below wr.heap.size wr W) => load_ent W (ad.add (i * 6)) x fun j v hj => by
          have h1 := hca j v hj
          rw [hW.cell (p := (ad.add (i * 6)).add j) (World.block_lt_of_cell? wr _ h1)]
          exact h1)
        have LY := Lib.hid (fun W (hW : Below wr.heap.size wr W) => load_ent W (bd.add (i * 6)) y fun j v hj => by
          have h1 := hcb j v hj
          rw [hW.cell (p := (bd.add (i * 6)).add j) (World.block_lt_of_cell? wr _ h1)]
          exact h1)
        have EX := Lib.hid ((HHA.out x (List.mem_of_getElem? hx)).below (Nat.le_refl _) HBw.out)
        have EY := Lib.hid ((HHB.out y (List.mem_of_getElem? hy)).below (Nat.le_refl _) HBw.out)
        have HX := Lib.hid hx
        have HY := Lib.hid hy
        clear hca hcb hx hy
        have IXA := Lib.hid (fun W => ix_ent W ad n ca i hlt)
        have IXB := Lib.hid (fun W => ix_ent W bd n cb i hlt)
        have hG : ∀ W W' : World, Below wr.heap.size wr W → Below W.heap.size W W' → Below wr.heap.size wr W' := fun W W' hW hb => hW.trans (hb.mono hW.size)
        by_cases hxy : x.e = y.e
        · have HC : Hid (∀ W, Below wr.heap.size wr W → Calls Try.prog 46 #[.agg (entC x.e x.a x.ca x.b x.cb), .agg (entC y.e y.a y.ca y.b y.cb)] W fun r w' => r = .returned (.bool true) ∧ Below W.heap.size W w') := Lib.hid fun W hW => by
            have h := refSame_any x.e y.e x.a x.b y.a y.b x.ca x.cb y.ca y.cb W (EX.out.below (Nat.le_refl _) hW) (EY.out.below (Nat.le_refl _) hW)
            rwa [decide_eq_true hxy] at h
          have HNext := Lib.hid (fun W (hW : Below w.heap.size w W) => (⟨i + 1, by have := HN.out; omega, rfl, entsTo_next HE.out HX.out HY.out hxy, hW⟩ : ListAt us vs w (.int .i64 ((i + 1 : Nat) : Int)) W))
          clear hxy EX EY HX HY
          go_upto_region 6 with fail
          refine region_by [(17, .is (.slice (some ad) n ca)), (18, .is (.int .i64 (i : Int))), (19, .is (.pointer (some (ad.add (i * 6))))), (20, .is (.agg (entC x.e x.a x.ca x.b x.cb))), (21, .is (.slice (some bd) n cb)), (22, .is (.int .i64 (i : Int))), (23, .is (.pointer (some (bd.add (i * 6))))), (24, .is (.agg (entC y.e y.a y.ca y.b y.cb))), (25, .is (.bool true)), (26, .is (.bool false))] [0, 1, 2, 3, 4, 5, 6, 7, 8, 9, 10, 26] (fun W => Below wr.heap.size wr W) (by kernel_rfl) (by kernel_rfl) (by kernel_rfl) (by kernel_rfl) (by kernel_rfl) ((Below.refl _ _).drew) ?_ ?_
          · refine ⟨?c0, ?c1, ?c2, ?c3, ?c4, ?c5, ?c6, ?c7, ?c8, ?c9, trivial⟩
            case c0 => exact ask_copy (guard_none rfl) (.tmp 0) (.inl rfl) (by intro k hk; cases hk; rfl)
            case c1 => exact ask_copy (guard_none rfl) (.tmp 5) (.inl rfl) (by intro k hk; cases hk; rfl)
            case c2 => exact ask_indexM (guard_none rfl) _ (.tmp 17) (.tmp 18) _ _ (.pointer (some (ad.add (i * 6)))) rfl rfl rfl (by intro k hk; cases hk; rfl) IXA.out
            case c3 => exact ask_load (guard_none rfl) _ (.tmp 19) (.pointer (some (ad.add (i * 6)))) (.agg (entC x.e x.a x.ca x.b x.cb)) rfl rfl (by intro k hk; cases hk; rfl) (fun W hW => LX.out W hW)
            case c4 => exact ask_copy (guard_none rfl) (.tmp 1) (.inl rfl) (by intro k hk; cases hk; rfl)
            case c5 => exact ask_copy (guard_none rfl) (.tmp 5) (.inl rfl) (by intro k hk; cases hk; rfl)
            case c6 => exact ask_indexM (guard_none rfl) _ (.tmp 21) (.tmp 22) _ _ (.pointer (some (bd.add (i * 6)))) rfl rfl rfl (by intro k hk; cases hk; rfl) IXB.out
            case c7 => exact ask_load (guard_none rfl) _ (.tmp 23) (.pointer (some (bd.add (i * 6)))) (.agg (entC y.e y.a y.ca y.b y.cb)) rfl rfl (by intro k hk; cases hk; rfl) (fun W hW => LY.out W hW)
            case c8 => exact ask_call hG (guard_none rfl) _ _ _ #[.agg (entC x.e x.a x.ca x.b x.cb), .agg (entC y.e y.a y.ca y.b y.cb)] (.is (.bool true)) rfl (by kernel_rfl) rfl rfl (by intro k hk; cases hk; rfl) (fun W hW => (HC.out W hW).mono fun e w' h => ⟨_, h.1, rfl, h.2⟩)
            case c9 => exact ask_exec (guard_none rfl) (.bool false) rfl rfl (by intro k hk; cases hk; rfl) (fun W hW => by kernel_rfl)
          · intro af wq hW hd' hs' hf'
            have t0 : af.tmps.getD 0 undef = .slice (some ad) n ca := hf' 0 rfl
            have t1 : af.tmps.getD 1 undef = .slice (some bd) n cb := hf' 1 rfl
            have t2 : af.tmps.getD 2 undef = undef := hf' 2 rfl
            have t3 : af.tmps.getD 3 undef = undef := hf' 3 rfl
            have t4 : af.tmps.getD 4 undef = u4 := hf' 4 rfl
            have t5 : af.tmps.getD 5 undef = .int .i64 (i : Int) := hf' 5 rfl
            have t6 : af.tmps.getD 6 undef = .slice (some ad) n ca := hf' 6 rfl
            have t7 : af.tmps.getD 7 undef = .int .i64 (n : Int) := hf' 7 rfl
            have t8 : af.tmps.getD 8 undef = .slice (some bd) n cb := hf' 8 rfl
            have t9 : af.tmps.getD 9 undef = .int .i64 (n : Int) := hf' 9 rfl
            have t10 : af.tmps.getD 10 undef = .bool false := hf' 10 rfl
            have t26 : af.tmps.getD 26 undef = .bool false := hf' 26 rfl
            obtain ⟨us, hus, haf⟩ := act_open 27 af hs' hd'
            rw [← hus] at t0 t1 t2 t3 t4 t5 t6 t7 t8 t9 t10 t26
            have el : ((List.range 27).map us).toArray = #[us 0, us 1, us 2, us 3, us 4, us 5, us 6, us 7, us 8, us 9, us 10, us 11, us 12, us 13, us 14, us 15, us 16, us 17, us 18, us 19, us 20, us 21, us 22, us 23, us 24, us 25, us 26] := rfl
            rw [el] at haf
            subst haf
            rw [t0, t1, t2, t3, t4, t5, t6, t7, t8, t9, t10, t26]
            have HQ := Lib.hid hW
            clear hus t0 t1 t2 t3 t4 t5 t6 t7 t8 t9 t10 t26 el hf' hs' hd' hW
            go_wp2
            go_roundw
            case rel => exact HNext.out _ (HBw.out.trans (HQ.out.mono HBw.out.size))
            case measure => simp [intOf]; omega
        · have HC : Hid (∀ W, Below wr.heap.size wr W → Calls Try.prog 46 #[.agg (entC x.e x.a x.ca x.b x.cb), .agg (entC y.e y.a y.ca y.b y.cb)] W fun r w' => r = .returned (.bool false) ∧ Below W.heap.size W w') := Lib.hid fun W hW => by
            have h := refSame_any x.e y.e x.a x.b y.a y.b x.ca x.cb y.ca y.cb W (EX.out.below (Nat.le_refl _) hW) (EY.out.below (Nat.le_refl _) hW)
            rwa [decide_eq_false hxy] at h
          have HF := Lib.hid (show us.map EE.e ≠ vs.map EE.e from fun h => hxy (by
            have h1 : (us.map EE.e)[i]? = some x.e := by rw [List.getElem?_map, HX.out]; rfl
            have h2 : (vs.map EE.e)[i]? = some y.e := by rw [List.getElem?_map, HY.out]; rfl
            rw [h, h2] at h1
            exact (Option.some.inj h1).symm))
          clear hxy EX EY HX HY
          go_upto_region 6 with fail
          refine region_by [(17, .is (.slice (some ad) n ca)), (18, .is (.int .i64 (i : Int))), (19, .is (.pointer (some (ad.add (i * 6))))), (20, .is (.agg (entC x.e x.a x.ca x.b x.cb))), (21, .is (.slice (some bd) n cb)), (22, .is (.int .i64 (i : Int))), (23, .is (.pointer (some (bd.add (i * 6))))), (24, .is (.agg (entC y.e y.a y.ca y.b y.cb))), (25, .is (.bool false)), (26, .is (.bool true))] [0, 1, 2, 3, 4, 5, 6, 7, 8, 9, 10, 26] (fun W => Below wr.heap.size wr W) (by kernel_rfl) (by kernel_rfl) (by kernel_rfl) (by kernel_rfl) (by kernel_rfl) ((Below.refl _ _).drew) ?_ ?_
          · refine ⟨?c0, ?c1, ?c2, ?c3, ?c4, ?c5, ?c6, ?c7, ?c8, ?c9, trivial⟩
            case c0 => exact ask_copy (guard_none rfl) (.tmp 0) (.inl rfl) (by intro k hk; cases hk; rfl)
            case c1 => exact ask_copy (guard_none rfl) (.tmp 5) (.inl rfl) (by intro k hk; cases hk; rfl)
            case c2 => exact ask_indexM (guard_none rfl) _ (.tmp 17) (.tmp 18) _ _ (.pointer (some (ad.add (i * 6)))) rfl rfl rfl (by intro k hk; cases hk; rfl) IXA.out
            case c3 => exact ask_load (guard_none rfl) _ (.tmp 19) (.pointer (some (ad.add (i * 6)))) (.agg (entC x.e x.a x.ca x.b x.cb)) rfl rfl (by intro k hk; cases hk; rfl) (fun W hW => LX.out W hW)
            case c4 => exact ask_copy (guard_none rfl) (.tmp 1) (.inl rfl) (by intro k hk; cases hk; rfl)
            case c5 => exact ask_copy (guard_none rfl) (.tmp 5) (.inl rfl) (by intro k hk; cases hk; rfl)
            case c6 => exact ask_indexM (guard_none rfl) _ (.tmp 21) (.tmp 22) _ _ (.pointer (some (bd.add (i * 6)))) rfl rfl rfl (by intro k hk; cases hk; rfl) IXB.out
            case c7 => exact ask_load (guard_none rfl) _ (.tmp 23) (.pointer (some (bd.add (i * 6)))) (.agg (entC y.e y.a y.ca y.b y.cb)) rfl rfl (by intro k hk; cases hk; rfl) (fun W hW => LY.out W hW)
            case c8 => exact ask_call hG (guard_none rfl) _ _ _ #[.agg (entC x.e x.a x.ca x.b x.cb), .agg (entC y.e y.a y.ca y.b y.cb)] (.is (.bool false)) rfl (by kernel_rfl) rfl rfl (by intro k hk; cases hk; rfl) (fun W hW => (HC.out W hW).mono fun e w' h => ⟨_, h.1, rfl, h.2⟩)
            case c9 => exact ask_exec (guard_none rfl) (.bool true) rfl rfl (by intro k hk; cases hk; rfl) (fun W hW => by kernel_rfl)
          · intro af wq hW hd' hs' hf'
            have t0 : af.tmps.getD 0 undef = .slice (some ad) n ca := hf' 0 rfl
            have t1 : af.tmps.getD 1 undef = .slice (some bd) n cb := hf' 1 rfl
            have t2 : af.tmps.getD 2 undef = undef := hf' 2 rfl
            have t3 : af.tmps.getD 3 undef = undef := hf' 3 rfl
            have t4 : af.tmps.getD 4 undef = u4 := hf' 4 rfl
            have t5 : af.tmps.getD 5 undef = .int .i64 (i : Int) := hf' 5 rfl
            have t6 : af.tmps.getD 6 undef = .slice (some ad) n ca := hf' 6 rfl
            have t7 : af.tmps.getD 7 undef = .int .i64 (n : Int) := hf' 7 rfl
            have t8 : af.tmps.getD 8 undef = .slice (some bd) n cb := hf' 8 rfl
            have t9 : af.tmps.getD 9 undef = .int .i64 (n : Int) := hf' 9 rfl
            have t10 : af.tmps.getD 10 undef = .bool false := hf' 10 rfl
            have t26 : af.tmps.getD 26 undef = .bool true := hf' 26 rfl
            obtain ⟨us, hus, haf⟩ := act_open 27 af hs' hd'
            rw [← hus] at t0 t1 t2 t3 t4 t5 t6 t7 t8 t9 t10 t26
            have el : ((List.range 27).map us).toArray = #[us 0, us 1, us 2, us 3, us 4, us 5, us 6, us 7, us 8, us 9, us 10, us 11, us 12, us 13, us 14, us 15, us 16, us 17, us 18, us 19, us 20, us 21, us 22, us 23, us 24, us 25, us 26] := rfl
            rw [el] at haf
            subst haf
            rw [t0, t1, t2, t3, t4, t5, t6, t7, t8, t9, t10, t26]
            have HQ := Lib.hid hW
            clear hus t0 t1 t2 t3 t4 t5 t6 t7 t8 t9 t10 t26 el hf' hs' hd' hW
            go_wp2
            go_ret
            exact ⟨by rw [decide_eq_false HF.out]; rfl, HBw.out.trans (HQ.out.mono HBw.out.size)⟩
      · obtain rfl : i = n := by omega
        have HF := Lib.hid (show us.map EE.e = vs.map EE.e by
          have h := HE.out
          unfold entsTo at h
          rw [List.take_of_length_le (by have := HN.out; omega), List.take_of_length_le (by have := HM.out; omega)] at h
          exact h)
        go_wp2
        go_ret
        exact ⟨by rw [decide_eq_true HF.out]; rfl, HBw.out⟩
  · have hq : ((us.length : Int) != (vs.length : Int)) = true := by simp; omega
    have hne : us.map EE.e ≠ vs.map EE.e := fun e => hlen (by simpa using congrArg List.length e)
    rw [decide_eq_false hne]
    obtain ⟨m, hm⟩ : ∃ m, m = vs.length := ⟨_, rfl⟩
    rw [← hn, ← hm] at hq
    rw [← hn, ← hm]
    clear ha hb hha hhb hn hm hlen hne hl
    go_enter Try.func33, Try.ntmps33
    go_wp2
    go_ret
    exact ⟨rfl, Below.refl _ _⟩
end Go.Proofs.Ytgbhfolbkgibfaa

