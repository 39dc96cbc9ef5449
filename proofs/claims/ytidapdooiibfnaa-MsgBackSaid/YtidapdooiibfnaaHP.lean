/- Joined: MsgMemb, MsgEntries. -/
import Derived.Test.YtidapdooiibfnaaHO
import Derived.Test.YtidapdooiibfnaaHF
import Derived.Test.YtidapdooiibfnaaHK
/- Layer 18: members that go through a hand. -/
namespace Go.Proofs.Ytidapdooiibfnaa
set_option maxRecDepth 20000
open Go.RowKit Go.Maps BinMath CmdMath
open MsgMath (Mg Hand fillE fillN idsH membersH withinH)

/-- How much k calls of a hand may lay down. -/
def grew : Nat → Nat
  | 0 => 0
  | k + 1 => grew k + 20000
theorem grew_le : ∀ (n k : Nat), k ≤ n → grew k ≤ grew n
  | n, 0, _ => Nat.zero_le _
  | 0, k + 1, h => absurd h (by omega)
  | n + 1, k + 1, h => Nat.add_le_add_right (grew_le n k (by omega)) 20000

def isNums (X : Nat → Prop) (B : Nat) (ms : List Nat) (y : Value) (w : World) (U : Nat → Prop) : Prop := Stay w (fun k => U k ∨ X k) B (fun W => Nums W y ms) ∧ (∀ x ∈ ms, x < 18446744073709551616) ∧ ms.length ≤ 7

/-- In the midst of the members: those that went through, and those that are left. -/
structure NAt (H : Hand) (z : List UInt8 → Nat) (I : World → (Nat → Prop) → List UInt8 → Prop) (U : Nat → Prop) (l : List UInt8) (w : World) (g n : Nat) (res : Except Nat (List Nat × List UInt8)) (d rest : List Nat) (U' : Nat → Prop) (l' : List UInt8) (wr : World) : Prop where
  len : d.length + rest.length = n
  blk : Blk wr g 22 ((d ++ rest).map uv).toArray
  hand : I wr U' l'
  gu : ¬ U' g
  only : OnlyS U w wr
  sub : ∀ k, U' k → U k ∨ w.heap.size ≤ k
  okd : ∀ x ∈ d, x < 18446744073709551616
  okr : ∀ x ∈ rest, x < 18446744073709551616
  ll : z l' ≤ z l + grew (d.length + 1)
  res : res = idsH H d rest l'

section
variable {H : Hand} {t : TypeId} {v r : Value} {fo fn ft fe : FuncId} {G B : Nat} {z : List UInt8 → Nat} {I : World → (Nat → Prop) → List UInt8 → Prop}

theorem NAt.next (hp : HandP H t v r fo fn ft fe G B z I) {U U' U2 : Nat → Prop} {l l' q : List UInt8} {w wr w4 w5 : World} {g n x y : Nat} {res : Except Nat (List Nat × List UInt8)} {d rest : List Nat} (h : NAt H z I U l w g n res d (x :: rest) U' l' wr)
    (hg : w.heap.size ≤ g) (hG : G ≤ g) (hr : H.number x l' = .ok (y, q)) (hy : y < 18446744073709551616) (ho : OnlyS U' wr w4) (hI : I w4 U2 q) (hU : ∀ k, U2 k → U' k ∨ wr.heap.size ≤ k) (hq : z q ≤ z l' + 20000) (hm : memOk (d ++ [y]) = true)
    (e5 : w5 = w4.setCell ⟨g, d.length, none⟩ (.int .u64 (y : Int))) : NAt H z I U l w g n res (d ++ [y]) rest U2 q w5 := by
  subst e5
  have hgl := h.blk.lt
  have hos : OnlyS (fun b => b = g) w4 (w4.setCell ⟨g, d.length, none⟩ (.int .u64 (y : Int))) := (OnlyS.refl (fun b => b = g) _).setCell (p := ⟨g, d.length, none⟩) (fun _ => rfl) _
  have hg2 : ¬ U2 g := fun e => by
    rcases hU g e with e | e
    · exact h.gu e
    · omega
  have hb4 := h.blk.onlyS ho h.gu
  refine ⟨?_, ?_, hp.keep hI hos (fun k _ e => by have e : k = g := e; subst e; exact ⟨hG, hg2⟩), hg2, ?_, fun k hk => ?_, fun z hz => ?_, fun z hz => h.okr z (List.mem_cons_of_mem _ hz), ?_, ?_⟩
  · have := h.len
    simp only [List.length_cons, List.length_append, List.length_nil] at this ⊢
    omega
  · have hs := hb4.set d.length (uv y)
    have e : (((d ++ x :: rest).map uv).toArray).setIfInBounds d.length (uv y) = ((d ++ [y] ++ rest).map uv).toArray := by
      apply Array.ext'
      simp
    rw [e] at hs
    exact hs
  · refine (h.only.then ho (fun k hk hu => ?_)).then hos (fun k hk e => by have e : k = g := e; omega)
    exact (h.sub k hu).resolve_right (by omega)
  · rcases hU k hk with hk | hk
    · exact h.sub k hk
    · exact .inr (Nat.le_trans h.only.size hk)
  · rcases List.mem_append.1 hz with hz | hz
    · exact h.okd z hz
    · rw [List.mem_singleton.1 hz]; exact hy
  · rw [List.length_append]
    exact Nat.le_trans hq (Nat.le_trans (Nat.add_le_add_right h.ll 20000) (Nat.le_of_eq (Nat.add_assoc _ _ _)))
  · rw [h.res, idsH, MsgMath.bindP_ok hr, if_pos hm]

set_option maxHeartbeats 4000000 in
theorem hmembers_any (hp : HandP H t v r fo fn ft fe G B z I) {w : World} {U : Nat → Prop} {l : List UInt8} (X : Nat → Prop) (vm : Value) (ids : List Nat) (hI : I w U l) (hX : ∀ k, X k → k < w.heap.size) (hm : Stay w (fun k => U k ∨ X k) B (fun W => Nums W vm ids)) (hlen : ids.length ≤ 140737488351232) (hok : ∀ x ∈ ids, x < 18446744073709551616) (hl : z l ≤ 900000000000) :
    Calls Try.prog 51 #[.iface t v, vm] w (HEnd 200000 z I U l w (membersH H ids l) (isNums X B)) := by
  obtain ⟨i0, hi, hz0, hz1, hz2⟩ := info_parts info_num
  obtain ⟨a, cap, rfl⟩ := hm.now.shape
  obtain ⟨L, hL⟩ : ∃ L, L = ids.length := ⟨_, rfl⟩
  rw [← hL] at hm ⊢
  have hLl : L ≤ 140737488351232 := by omega
  have hlt := hp.lt hI
  have HN := Lib.hid (within_any hp L 1 7 hI (by omega) (by omega))
  have HLen := Lib.hid hL
  have HM := Lib.hid hm
  have HOk := Lib.hid hok
  have HX := Lib.hid hX
  have HLt := Lib.hid hlt
  have mn := hp.mn
  have en := hp.en
  have HLl := Lib.hid hl
  have hcv := fun W => conv_len L (by omega) W
  clear hI hm hlen hlt hX hok hL hl
  cases hr : withinH H L 1 7 l with
  | error c =>
    have HE := Lib.hid (show membersH H ids l = .error c by rw [membersH, ← HLen.out]; exact MsgMath.bindP_err hr)
    have HR := Lib.hid hr
    clear hr
    go_enter Try.func51, Try.ntmps51
    go_wp2_with fail
    refine HN.out.mono ?_
    intro e w1 h
    obtain ⟨ho, hc, rfl⟩ := h.err HR.out
    exact ⟨rfl, HEnd.bad HE.out ho hc⟩
  | ok p =>
    obtain ⟨n, q⟩ := p
    have HE := Lib.hid (show membersH H ids l = idsH H [] (fillN n ids) q by rw [membersH, ← HLen.out, MsgMath.bindP_ok hr])
    have HR := Lib.hid hr
    clear hr
    go_enter Try.func51, Try.ntmps51
    go_wp2_with fail
    refine HN.out.mono ?_
    intro e w1 h
    obtain ⟨y, U1, rfl, ho, ⟨rfl, -, hn1, hn7⟩, hI1, hU1, hq⟩ := h.ok HR.out
    have HV := Lib.hid ((HM.out.step ho (fun k _ hu => .inl hu) (Y' := fun k => U k ∨ X k) (fun k _ hu => hu)).now)
    have HO := Lib.hid ho
    have HI := Lib.hid hI1
    have HU := Lib.hid hU1
    have HQ := Lib.hid hq
    have hsz : w.heap.size ≤ w1.heap.size := ho.size
    clear h ho hI1 hU1 hq
    obtain ⟨g, hg⟩ : ∃ g, g = w1.heap.size := ⟨_, rfl⟩
    have HGq := Lib.hid hg
    clear hg
    go_wp2_with (first
      | (at_make; refine wpList_make_blk rfl _ _ 24 rfl 22 i0 (.int .u64 0) 1 Try.underlying24 hi hz0 hz1 _ _ n rfl rfl (by rw [hz2]; omega) (by unfold maxLen; omega) ((List.replicate n 0).map uv) (made_nums n) ?_; intro w2 hb2 hw2; rw [← HGq.out] at hb2 ⊢; (have HB2 := Lib.hid hb2); (have HW2 := Lib.hid hw2); (have HV2 := Lib.hid (HV.out.below (Nat.le_refl _) hw2)); clear hb2 hw2)
      | (refine wpList_copy_blk rfl (.tmp 16) (.tmp 17) 24 24 rfl 22 Try.underlying24 1 (by kernel_rfl) (by decide) g n n a L cap rfl rfl ((List.replicate n 0).map uv) HB2.out ((ids.take n).map uv) (by rw [List.length_map, List.length_take, ← HLen.out, Nat.mul_one, Nat.min_comm]) (HV2.out.cellsTo n) (by rw [List.length_map, List.length_map, List.length_take, List.length_replicate]; omega) (fun u hu => by obtain ⟨z, -, rfl⟩ := List.mem_map.1 hu; rfl) ((fillN n ids).map uv) (fill_nums n ids) ?_; intro w3 hb3 hw3; (have HB3 := Lib.hid hb3); (have HW3 := Lib.hid hw3); clear hb3 hw3))
    have hg := HGq.out
    have hgw : w.heap.size ≤ g := by omega
    have hGg : G ≤ g := by have := HLt.out.2.1; omega
    have hBg : B ≤ g := by have := HLt.out.2.2; omega
    have hU1g : ¬ U1 g := fun e => by have := (hp.lt HI.out).1 g e; omega
    have h0 : NAt H z I U l w g n (membersH H ids l) [] (fillN n ids) U1 q w3 := by
      refine ⟨by rw [MsgMath.fillN_len]; simp, by rw [List.nil_append]; exact HB3.out, ?_, hU1g, ?_, HU.out, by simp, fun x hx => ?_, HQ.out, HE.out⟩
      · refine hp.keep (hp.keep (V := fun _ => False) HI.out (OnlyS.of_below HW2.out fun k hk _ => hk) (fun k _ e => e.elim)) HW3.out (fun k _ e => by have e : k = g := e; subst e; exact ⟨hGg, hU1g⟩)
      · exact (HO.out.then (OnlyS.of_below (S := fun _ => False) HW2.out fun k hk _ => hk) (fun k _ e => e.elim)).then HW3.out (fun k hk e => by have e : k = g := e; omega)
      · rcases List.mem_append.1 (List.mem_of_mem_take hx) with hx | hx
        · exact HOk.out x hx
        · rw [(List.mem_replicate.1 hx).2]; decide
    have H0 := Lib.hid h0
    clear h0 hg HGq HB3 HW3 HB2 HW2 HV2 HV HO HI HU HQ hU1g HN
    go_wp2
    go_loopw [21] (fun s21 wr => ∃ (d rest : List Nat) (U' : Nat → Prop) (l' : List UInt8), s21 = .int .i64 (d.length : Int) ∧ NAt H z I U l w g n (membersH H ids l) d rest U' l' wr) (fun s21 _ => n - (intOf s21).toNat)
    case atStart => exact ⟨[], fillN n ids, U1, q, rfl, H0.out⟩
    case round =>
      clear H0
      obtain ⟨d, rest, U', l', rfl, hat⟩ := hrel
      have HAt := Lib.hid hat
      obtain ⟨i, hi'⟩ : ∃ i, i = d.length := ⟨_, rfl⟩
      rw [← hi']
      have HIl := Lib.hid hi'
      cases rest with
      | nil =>
        have hin : i = n := by have := hat.len; simp at this; omega
        subst hin
        have hres := hat.res
        have hbl := hat.blk
        rw [List.append_nil] at hbl
        have hd : d.length ≤ 7 := by omega
        have HG := Lib.hid (HEnd.good (D := 200000) (z := z) (l := l) (val := isNums X B) (x := d) (y := .slice (some ⟨g, 0, none⟩) i i) (show membersH H ids l = .ok (d, l') from hres) hat.only ⟨fun W hW => by
            have hb : Blk W g 22 (d.map uv).toArray := by
              have h2 := hW g hBg hbl.lt (fun e => e.elim hat.gu fun e => by have := HX.out g e; omega)
              unfold Blk at *
              rw [h2]
              exact hbl
            have h3 := hb.nums hi'.symm (Nat.le_refl i)
            rwa [List.take_of_length_le (by omega)] at h3, hat.okd, hd⟩ hat.hand hat.sub (by have h1 := hat.ll; have h2 := grew_le 8 (d.length + 1) (by omega); have h3 : grew 8 = 160000 := rfl; omega))
        clear hat hres hbl hd hi' HAt HIl
        go_wp2
        go_ret
        exact HG.out
      | cons x rest =>
        have hin : i < n := by have := hat.len; simp at this; omega
        have hgl := hat.blk.lt
        have hx64 := hat.okr x List.mem_cons_self
        have HN2 := Lib.hid (hp.number x hat.hand hx64 (by have h1 := hat.ll; have h2 := grew_le 8 (d.length + 1) (by omega); have h3 : grew 8 = 160000 := rfl; have := HLl.out; omega))
        have k0 : wr.cell? ⟨g, i, none⟩ = some (.int .u64 (x : Int)) := by
          rw [hat.blk.cell]
          simp [hi', uv]
        cases hx : H.number x l' with
        | error c =>
          have HR2 := Lib.hid hx
          have HE2 := Lib.hid (show membersH H ids l = .error c by rw [hat.res, idsH]; exact MsgMath.bindP_err hx)
          clear hat hx hi'
          go_wp2_with fail
          refine HN2.out.mono ?_
          intro e w4 h
          obtain ⟨ho, hc, rfl⟩ := h.err HR2.out
          exact ⟨rfl, HEnd.bad HE2.out (HAt.out.only.then ho (fun k hk hu => (HAt.out.sub k hu).resolve_right (by omega))) hc⟩
        | ok p =>
          obtain ⟨y, q2⟩ := p
          have HR2 := Lib.hid hx
          clear hat hx hi'
          go_wp2_with fail
          refine HN2.out.mono ?_
          intro e w4 h
          obtain ⟨y', U2, rfl, ho, ⟨rfl, hy⟩, hI2, hU2, hq2⟩ := h.ok HR2.out
          have hb4 := HAt.out.blk.onlyS ho HAt.out.gu
          have hcell : w4.cell? ⟨g, i, none⟩ = some (.int .u64 (x : Int)) := by
            rw [hb4.cell]
            simp [HIl.out, uv]
          have hfree : w4.frozen? ⟨g, i, none⟩ = false := hb4.frozen i
          have hnat := fun hm => HAt.out.next hp hgw hGg HR2.out hy ho hI2 hU2 hq2 hm rfl
          rw [← HIl.out] at hnat
          have HNat := Lib.hid hnat
          have hos4 := HAt.out.only.then ho (fun k hk hu => (HAt.out.sub k hu).resolve_right (by omega))
          have HO5 := Lib.hid (hos4.then ((OnlyS.refl (fun b => b = g) w4).setCell (p := ⟨g, i, none⟩) (fun _ => rfl) (.int .u64 (y : Int))) (fun k hk e => by have e : k = g := e; omega))
          have hnums : Nums (w4.setCell ⟨g, i, none⟩ (.int .u64 (y : Int))) (.slice (some ⟨g, 0, none⟩) (i + 1) n) (d ++ [y]) := by
            have hs := hb4.set i (uv y)
            have e : (((d ++ x :: rest).map uv).toArray).setIfInBounds i (uv y) = ((d ++ [y] ++ rest).map uv).toArray := by
              apply Array.ext'
              simp [HIl.out]
            rw [e] at hs
            have h3 := hs.nums (n := n) (k := i + 1) (by have := HAt.out.len; simp only [List.length_append, List.length_cons, List.length_nil] at this ⊢; omega) (by omega)
            rwa [List.take_left' (by simp [HIl.out])] at h3
          have hokd : ∀ z ∈ d ++ [y], z < 18446744073709551616 := fun z hz => by
            rcases List.mem_append.1 hz with hz | hz
            · exact HAt.out.okd z hz
            · rw [List.mem_singleton.1 hz]; exact hy
          have HMe := Lib.hid (members_any _ _ _ hnums (by simp only [List.length_append, List.length_cons, List.length_nil]; have := HIl.out; omega) hokd)
          have hsl : ∀ W, (Instr.sliceAt 24 (.slice (some ⟨g, 0, none⟩) n n) none (some (.int .i64 ((i : Int) + 1))) none).run Try.prog W = .ok (.slice (some ⟨g, 0, none⟩) (i + 1) n) W := fun W => by
            have h := slice_nums_to (some ⟨g, 0, none⟩) n n (i + 1) (by omega) W
            simpa using h
          have HRes := Lib.hid HAt.out.res
          have HDl := Lib.hid HIl.out
          clear h ho hy hI2 hU2 hq2 hb4 hnat hos4 hnums hokd k0 HAt HN2
          by_cases hmo : memOk (d ++ [y]) = true
          · have HMo := Lib.hid hmo
            rw [hmo] at HMe
            clear hmo
            go_wp2_with fail
            refine HMe.out.mono ?_
            rintro e w6 ⟨rfl, rfl⟩
            go_wp2_with fail
            refine (mask_yes 3 _).mono ?_
            rintro e w6 ⟨rfl, rfl⟩
            clear hcell hfree hsl
            go_wp2
            go_round
            case rel => exact ⟨d ++ [y], rest, U2, q2, by rw [List.length_append, ← HDl.out]; go_num, HNat.out HMo.out⟩
            case measure => simp [intOf]; omega
          · have HE2 := Lib.hid (show membersH H ids l = .error 3 by rw [HRes.out, idsH, MsgMath.bindP_ok HR2.out, if_neg hmo]; rfl)
            rw [show memOk (d ++ [y]) = false by simpa using hmo] at HMe
            clear hmo
            go_wp2_with fail
            refine HMe.out.mono ?_
            rintro e w6 ⟨rfl, rfl⟩
            go_wp2_with fail
            refine (mask_no 3 (by decide) _).mono ?_
            rintro e w6 ⟨rfl, rfl⟩
            exact ⟨rfl, HEnd.bad HE2.out HO5.out (by decide)⟩
end
end Go.Proofs.Ytidapdooiibfnaa

/- Layer 18: entries that go through a hand. -/
namespace Go.Proofs.Ytidapdooiibfnaa
set_option maxRecDepth 20000
open Go.RowKit Go.Maps BinMath CmdMath
open MsgMath (Mg Hand fillE entsH entriesH)

def isEnts (X : Nat → Prop) (B : Nat) (es : List Ent) (y : Value) (w : World) (U : Nat → Prop) : Prop := ∃ us : List EE, us.map EE.e = es ∧ us.length ≤ 4 ∧ Stay w (fun k => U k ∨ X k) B (fun W => Els W y us ∧ HasAll W us)

/-- In the midst of the entries: those that went through, and those that are left. -/
structure EAt (H : Hand) (z : List UInt8 → Nat) (I : World → (Nat → Prop) → List UInt8 → Prop) (U X : Nat → Prop) (B : Nat) (l : List UInt8) (w : World) (g n : Nat) (res : Except Nat (List Ent × List UInt8)) (d rest : List EE) (U' : Nat → Prop) (l' : List UInt8) (wr : World) : Prop where
  len : d.length + rest.length = n
  blk : Blk wr g 42 ((d ++ rest).flatMap EE.cells).toArray
  hand : I wr U' l'
  gu : ¬ U' g
  only : OnlyS U w wr
  sub : ∀ k, U' k → U k ∨ w.heap.size ≤ k
  has : Stay wr (fun k => U' k ∨ X k ∨ k = g) B (fun W => HasAll W (d ++ rest))
  ll : z l' ≤ z l + grew (d.length + 1)
  res : res = entsH H (d.map EE.e) (rest.map EE.e) l'

theorem patch_cells (d rest : List EE) (u u' : EE) : patch ((d ++ u :: rest).flatMap EE.cells).toArray (d.length * 6) u'.cells = ((d ++ [u'] ++ rest).flatMap EE.cells).toArray := by
  unfold patch
  congr 1
  rw [EE.cells_len, cells_take, show d.length * 6 + 6 = (d.length + 1) * 6 by omega, cells_drop]
  have h1 : (d ++ u :: rest).take d.length = d := by simp
  have h2 : (d ++ u :: rest).drop (d.length + 1) = rest := by
    rw [← List.drop_drop]
    simp
  rw [h1, h2]
  simp

section
variable {H : Hand} {t : TypeId} {v r : Value} {fo fn ft fe : FuncId} {G B : Nat} {z : List UInt8 → Nat} {I : World → (Nat → Prop) → List UInt8 → Prop}

/-- Where only new blocks are written. -/
theorem EAt.fresh (hp : HandP H t v r fo fn ft fe G B z I) {U X U' : Nat → Prop} {l l' : List UInt8} {w wr w3 : World} {g n : Nat} {res : Except Nat (List Ent × List UInt8)} {d rest : List EE} (h : EAt H z I U X B l w g n res d rest U' l' wr) (ho : OnlyS (fun _ => False) wr w3) : EAt H z I U X B l w g n res d rest U' l' w3 :=
  ⟨h.len, h.blk.onlyS ho (fun e => e), hp.keep h.hand ho (fun _ _ e => e.elim), h.gu, h.only.then ho (fun _ _ e => e.elim), h.sub, h.has.step ho (fun _ _ e => e.elim) (fun _ _ e => e), h.ll, h.res⟩

theorem EAt.next (hp : HandP H t v r fo fn ft fe G B z I) {U X U' U2 : Nat → Prop} {l l' q : List UInt8} {w wr w4 w5 : World} {g n : Nat} {res : Except Nat (List Ent × List UInt8)} {d rest : List EE} {u u' : EE} (h : EAt H z I U X B l w g n res d (u :: rest) U' l' wr)
    (hg : w.heap.size ≤ g) (hG : G ≤ g) (hr : H.entry u.e l' = .ok (u'.e, q)) (ho : OnlyS U' wr w4) (hI : I w4 U2 q) (hU : ∀ k, U2 k → U' k ∨ wr.heap.size ≤ k) (hq : z q ≤ z l' + 20000) (hu : Stay w4 (fun k => U2 k ∨ X k ∨ k = g) B (fun W => Has W u'.e u'.a u'.ca u'.b u'.cb))
    (e5 : w5 = w4.setRow g (patch ((d ++ u :: rest).flatMap EE.cells).toArray (d.length * 6) u'.cells)) : EAt H z I U X B l w g n res (d ++ [u']) rest U2 q w5 := by
  subst e5
  have hgl := h.blk.lt
  have hos := setRow_onlyS w4 g (patch ((d ++ u :: rest).flatMap EE.cells).toArray (d.length * 6) u'.cells)
  have hg2 : ¬ U2 g := fun e => by
    rcases hU g e with e | e
    · exact h.gu e
    · omega
  have hb4 := h.blk.onlyS ho h.gu
  have hst : Stay w4 (fun k => U2 k ∨ X k ∨ k = g) B (fun W => HasAll W (d ++ u :: rest)) := h.has.step ho (fun k _ e => .inl e) (fun k hk e => e.elim (fun e => .inl ((hU k e).resolve_right (by omega))) .inr)
  refine ⟨?_, ?_, hp.keep hI hos (fun k _ e => by have e : k = g := e; subst e; exact ⟨hG, hg2⟩), hg2, ?_, fun k hk => ?_, ?_, ?_, ?_⟩
  · have := h.len
    simp only [List.length_cons, List.length_append, List.length_nil] at this ⊢
    omega
  · rw [← patch_cells d rest u u']
    exact hb4.row _
  · refine (h.only.then ho (fun k hk hu => ?_)).then hos (fun k hk e => by have e : k = g := e; omega)
    exact (h.sub k hu).resolve_right (by omega)
  · rcases hU k hk with hk | hk
    · exact h.sub k hk
    · exact .inr (Nat.le_trans h.only.size hk)
  · refine Stay.step (w := w4) (Y := fun k => U2 k ∨ X k ∨ k = g) (fun W hW z hz => ?_) hos (fun k _ e => .inr (.inr e)) (fun k _ e => e)
    rw [List.append_assoc] at hz
    rcases List.mem_append.1 hz with hz | hz
    · exact hst W hW z (List.mem_append_left _ hz)
    · rcases List.mem_cons.1 hz with rfl | hz
      · exact hu W hW
      · exact hst W hW z (List.mem_append_right _ (List.mem_cons_of_mem _ hz))
  · rw [List.length_append]
    exact Nat.le_trans hq (Nat.le_trans (Nat.add_le_add_right h.ll 20000) (Nat.le_of_eq (Nat.add_assoc _ _ _)))
  · rw [h.res, List.map_cons, entsH, MsgMath.bindP_ok hr, List.map_append]
    rfl

set_option maxHeartbeats 4000000 in
theorem entries_any (hp : HandP H t v r fo fn ft fe G B z I) {w : World} {U : Nat → Prop} {l : List UInt8} (X : Nat → Prop) (ve : Value) (us : List EE) (hI : I w U l) (hX : ∀ k, X k → k < w.heap.size) (hm : Stay w (fun k => U k ∨ X k) B (fun W => Els W ve us ∧ HasAll W us)) (hlen : us.length ≤ 140737488351232) (hl : z l ≤ 900000000000) :
    Calls Try.prog 50 #[.iface t v, ve] w (HEnd 200000 z I U l w (entriesH H (us.map EE.e) l) (isEnts X B)) := by
  obtain ⟨i0, hi, hz0, hz1, hz2⟩ := info_parts info_ent
  obtain ⟨a, cap, rfl⟩ := hm.now.1.form
  obtain ⟨L, hL⟩ : ∃ L, L = us.length := ⟨_, rfl⟩
  rw [← hL] at hm ⊢
  have hLl : L ≤ 140737488351232 := by omega
  have hlt := hp.lt hI
  have HN := Lib.hid (hp.number L hI (by omega) (by omega))
  have HLen := Lib.hid hL
  have HM := Lib.hid hm
  have HX := Lib.hid hX
  have HLt := Lib.hid hlt
  have mn := hp.mn
  have en := hp.en
  have me := hp.me
  have ee := hp.ee
  have HLl := Lib.hid hl
  have hcv := fun W => conv_len L (by omega) W
  clear hI hm hlen hlt hX hL hl
  cases hr : H.number L l with
  | error c =>
    have HE := Lib.hid (show entriesH H (us.map EE.e) l = .error c by rw [entriesH, List.length_map, ← HLen.out]; exact MsgMath.bindP_err hr)
    have HR := Lib.hid hr
    clear hr
    go_enter Try.func50, Try.ntmps50
    go_wp2_with fail
    refine HN.out.mono ?_
    intro e w1 h
    obtain ⟨ho, hc, rfl⟩ := h.err HR.out
    exact ⟨rfl, HEnd.bad HE.out ho hc⟩
  | ok p =>
    obtain ⟨n, q⟩ := p
    by_cases hn4 : n ≤ 4
    · have HE := Lib.hid (show entriesH H (us.map EE.e) l = entsH H [] ((fillU n us).map EE.e) q by rw [entriesH, List.length_map, ← HLen.out, MsgMath.bindP_ok hr, if_pos hn4, fillU_ents])
      have HR := Lib.hid hr
      clear hr
      go_enter Try.func50, Try.ntmps50
      go_wp2_with fail
      refine HN.out.mono ?_
      intro e w1 h
      obtain ⟨y, U1, rfl, ho, ⟨rfl, -⟩, hI1, hU1, hq⟩ := h.ok HR.out
      have HV := Lib.hid ((HM.out.step ho (fun k _ hu => .inl hu) (Y' := fun k => U1 k ∨ X k) (fun k hk e => e.elim (fun e => .inl ((hU1 k e).resolve_right (by omega))) .inr)))
      have HO := Lib.hid ho
      have HI := Lib.hid hI1
      have HU := Lib.hid hU1
      have HQ := Lib.hid hq
      have hsz : w.heap.size ≤ w1.heap.size := ho.size
      clear h ho hI1 hU1 hq
      go_wp2_with fail
      rw [show decide ((n : Int) ≤ 4) = true from decide_eq_true (by omega)]
      refine (mask_yes 4 _).mono ?_
      rintro e w1' ⟨rfl, rfl⟩
      obtain ⟨g, hg⟩ : ∃ g, g = w1'.heap.size := ⟨_, rfl⟩
      have HGq := Lib.hid hg
      clear hg
      go_wp2_with (first
        | (at_make; refine wpList_make_blk rfl _ _ 23 rfl 42 i0 (.agg zeroC) 6 Try.underlying23 hi hz0 hz1 _ _ n rfl rfl (by rw [hz2]; omega) (by unfold maxLen; omega) ((List.replicate n zeroEE).flatMap EE.cells) (made_ents n hn4) ?_; intro w2 hb2 hw2; rw [← HGq.out] at hb2 ⊢; (have HB2 := Lib.hid hb2); (have HW2 := Lib.hid hw2); (have HV2 := Lib.hid (HV.out.now.1.below (Nat.le_refl _) hw2)); clear hb2 hw2)
        | (refine wpList_copy_blk rfl (.tmp 19) (.tmp 20) 23 23 rfl 42 Try.underlying23 6 (by kernel_rfl) (by decide) g n n a L cap rfl rfl ((List.replicate n zeroEE).flatMap EE.cells) HB2.out ((us.take n).flatMap EE.cells) (by rw [cells_all, List.length_take, ← HLen.out, Nat.min_comm]) (HV2.out.cellsTo n) (by rw [cells_all, cells_all, List.length_take, List.length_replicate]; exact Nat.mul_le_mul_right _ (Nat.min_le_left _ _)) (cells_one _) ((fillU n us).flatMap EE.cells) (fill_cells n us) ?_; intro w3 hb3 hw3; (have HB3 := Lib.hid hb3); (have HW3 := Lib.hid hw3); clear hb3 hw3))
      have hg := HGq.out
      have hgw : w.heap.size ≤ g := by omega
      have hGg : G ≤ g := by have := HLt.out.2.1; omega
      have hBg : B ≤ g := by have := HLt.out.2.2; omega
      have hU1g : ¬ U1 g := fun e => by have := (hp.lt HI.out).1 g e; omega
      have h0 : EAt H z I U X B l w g n (entriesH H (us.map EE.e) l) [] (fillU n us) U1 q w3 := by
        refine ⟨by rw [fillU_len]; simp, by rw [List.nil_append]; exact HB3.out, ?_, hU1g, ?_, HU.out, ?_, HQ.out, HE.out⟩
        · refine hp.keep (hp.keep (V := fun _ => False) HI.out (OnlyS.of_below HW2.out fun k hk _ => hk) (fun k _ e => e.elim)) HW3.out (fun k _ e => by have e : k = g := e; subst e; exact ⟨hGg, hU1g⟩)
        · exact (HO.out.then (OnlyS.of_below (S := fun _ => False) HW2.out fun k hk _ => hk) (fun k _ e => e.elim)).then HW3.out (fun k hk e => by have e : k = g := e; omega)
        · have h1 := HV.out.step (OnlyS.of_below (S := fun _ => False) HW2.out fun k hk _ => hk) (fun k _ e => e.elim) (Y' := fun k => U1 k ∨ X k ∨ k = g) (fun k hk e => by
            rcases e with e | e | e
            · exact .inl e
            · exact .inr e
            · omega)
          exact (h1.step HW3.out (fun k _ e => .inr (.inr e)) (fun k _ e => e)).imp fun W hW => fillU_has hW.2
      have H0 := Lib.hid h0
      clear h0 hg HGq HB3 HW3 HB2 HW2 HV2 HV HO HI HU HQ hU1g HN
      go_wp2
      go_loopw [24] (fun s24 wr => ∃ (d rest : List EE) (U' : Nat → Prop) (l' : List UInt8), s24 = .int .i64 (d.length : Int) ∧ EAt H z I U X B l w g n (entriesH H (us.map EE.e) l) d rest U' l' wr) (fun s24 _ => n - (intOf s24).toNat)
      case atStart => exact ⟨[], fillU n us, U1, q, rfl, H0.out⟩
      case round =>
        clear H0
        obtain ⟨d, rest, U', l', rfl, hat⟩ := hrel
        obtain ⟨i, hi'⟩ : ∃ i, i = d.length := ⟨_, rfl⟩
        rw [← hi']
        have HIl := Lib.hid hi'
        cases rest with
        | nil =>
          have hin : i = n := by have := hat.len; simp at this; omega
          subst hin
          have hres := hat.res
          have hbl := hat.blk
          rw [List.append_nil] at hbl
          have HG := Lib.hid (HEnd.good (D := 200000) (z := z) (l := l) (val := isEnts X B) (x := d.map EE.e) (y := .slice (some ⟨g, 0, none⟩) i i) (show entriesH H (us.map EE.e) l = .ok (d.map EE.e, l') from hres) hat.only ⟨d, rfl, by omega, fun W hW => by
              have hb : Blk W g 42 (d.flatMap EE.cells).toArray := by
                have h2 := hW g hBg hbl.lt (fun e => e.elim hat.gu fun e => by have := HX.out g e; omega)
                unfold Blk at *
                rw [h2]
                exact hbl
              refine ⟨.inr ⟨⟨g, 0, none⟩, i, by rw [← hi'], by omega, fun j x hj => ?_⟩, ?_⟩
              · rw [addr_add, Nat.zero_add, hb.cell]
                simpa using hj
              · have h3 := hat.has W fun k h1 h2 h4 => hW k h1 h2 fun e => h4 (e.elim .inl fun e => .inr (.inl e))
                rwa [List.append_nil] at h3⟩ hat.hand hat.sub (by have h1 := hat.ll; have h2 := grew_le 8 (d.length + 1) (by omega); have h3 : grew 8 = 160000 := rfl; omega))
          clear hat hres hbl hi' HIl
          go_wp2
          go_ret
          exact HG.out
        | cons u rest =>
          have hin : i < n := by have := hat.len; simp at this; omega
          have hgl := hat.blk.lt
          have hld : (Instr.loadAt 42 (.pointer (some ⟨g, i * 6, none⟩))).run Try.prog wr = .ok (.agg (entC u.e u.a u.ca u.b u.cb)) wr := by
            refine hat.blk.loadsAt 42 _ (i * 6) (i * 6) u.cells Try.underlying42 rfl (by kernel_rfl) (fun j x hj => ?_) rfl
            have h1 := cells_drop (d ++ u :: rest) i
            rw [show (d ++ u :: rest).drop i = u :: rest by rw [hi']; simp, List.flatMap_cons] at h1
            rw [List.getElem?_toArray, ← List.getElem?_drop, h1, List.getElem?_append_left (List.getElem?_eq_some_iff.1 hj).1]
            exact hj
          have hix : ∀ W, (Instr.indexAt 23 (.slice (some ⟨g, 0, none⟩) n n) (.int .i64 (i : Int))).run Try.prog W = .ok (.pointer (some ⟨g, i * 6, none⟩)) W := fun W => by
            have h := ix_ent W ⟨g, 0, none⟩ n n i hin
            rwa [addr_add, Nat.zero_add] at h
          have HAt := Lib.hid hat
          have HLd := Lib.hid hld
          clear hat hi' hld
          go_upto_region 8 with (first
            | (refine wpList_load_by rfl 42 (.tmp 27) rfl _ _ rfl HLd.out ?_)
            | (refine wpList_store_all rfl 42 (.tmp 8) (.tmp 28) rfl wr.heap.size (entC u.e u.a u.ca u.b u.cb) rfl rfl 42 zeroC (Blk.new wr 42 zeroC) (by kernel_rfl) rfl (by simp [entC, Value.oneCell']) ?_; intro w3 hb hos; (have HBx := Lib.hid hb); (have HOx := Lib.hid (((OnlyS.refl (fun _ => False) wr).alloc _).then hos (fun k hk e => by have e : k = wr.heap.size := e; omega))); clear hb hos))
          obtain ⟨E, hE⟩ : ∃ E, E = wr.heap.size := ⟨_, rfl⟩
          rw [← hE] at HBx ⊢
          have hat3 := HAt.out.fresh hp HOx.out
          have HA3 := Lib.hid hat3
          have hsz3 : w.heap.size ≤ w3.heap.size := hat3.only.size
          have hg3 : g < w3.heap.size := hat3.blk.lt
          have HN2 := Lib.hid (hp.entry (fun k => X k ∨ k = g) u.e (.agg (entC u.e u.a u.ca u.b u.cb)) hat3.hand (fun k hk => hk.elim (fun hk => Nat.lt_of_lt_of_le (HX.out k hk) hsz3) (fun hk => by omega)) ⟨u.a, u.ca, u.b, u.cb, rfl, hat3.has.imp fun W hW => hW u (by simp)⟩
            (by have h1 := hat3.ll; have h2 := grew_le 8 (d.length + 1) (by have := HIl.out; omega); have h3 : grew 8 = 160000 := rfl; have := HLl.out; omega))
          have HLx := Lib.hid (Blk.loads (P := Try.prog) HBx.out 42 _ Try.underlying42 rfl (by kernel_rfl))
          clear hat3 HAt HLd hE HOx
          cases hx : H.entry u.e l' with
          | error c =>
            have HR2 := Lib.hid hx
            have HE2 := Lib.hid (show entriesH H (us.map EE.e) l = .error c by rw [HA3.out.res, List.map_cons, entsH]; exact MsgMath.bindP_err hx)
            clear hx
            go_wp2_with (refine wpList_load_by rfl 42 (.tmp 8) rfl _ _ rfl HLx.out ?_)
            refine HN2.out.mono ?_
            intro e w4 h
            obtain ⟨ho, hc, rfl⟩ := h.err HR2.out
            exact ⟨rfl, HEnd.bad HE2.out (HA3.out.only.then ho (fun k hk hu => (HA3.out.sub k hu).resolve_right (by omega))) hc⟩
          | ok p =>
            obtain ⟨x, q2⟩ := p
            have HR2 := Lib.hid hx
            clear hx
            go_wp2_with (refine wpList_load_by rfl 42 (.tmp 8) rfl _ _ rfl HLx.out ?_)
            refine HN2.out.mono ?_
            intro e w4 h
            obtain ⟨y', U2, rfl, ho, hy, hI2, hU2, hq2⟩ := h.ok HR2.out
            obtain ⟨xa, xca, xb, xcb, rfl, hu⟩ := hy
            obtain ⟨w5, hw5⟩ : ∃ w5, w5 = w4.setRow g (patch ((d ++ u :: rest).flatMap EE.cells).toArray (d.length * 6) (⟨x, xa, xca, xb, xcb⟩ : EE).cells) := ⟨_, rfl⟩
            have HNat := Lib.hid (HA3.out.next hp hgw hGg (u' := ⟨x, xa, xca, xb, xcb⟩) HR2.out ho hI2 hU2 hq2 hu hw5)
            have hst := Blk.storesAt (P := Try.prog) (HA3.out.blk.onlyS ho HA3.out.gu) 42 (d.length * 6) (⟨x, xa, xca, xb, xcb⟩ : EE).cells (by kernel_rfl) (by have := HA3.out.len; rw [EE.cells_len, List.size_toArray, cells_all]; simp only [List.length_append, List.length_cons] at this ⊢; omega) (fun z hz => cells_one [⟨x, xa, xca, xb, xcb⟩] z (by simpa using hz))
            rw [← hw5, ← HIl.out] at hst
            have HSt := Lib.hid hst
            clear h ho hI2 hU2 hq2 hu hst hw5 HA3 HN2 HLx HBx
            go_wp2_with (refine wpList_store_by rfl 42 (.tmp 34) (.tmp 33) rfl _ _ rfl rfl _ HSt.out ?_)
            go_roundw
            case rel => exact ⟨d ++ [⟨x, xa, xca, xb, xcb⟩], rest, U2, q2, by rw [List.length_append, ← HIl.out]; go_num, HNat.out⟩
            case measure => simp [intOf]; omega
    · have HE := Lib.hid (show entriesH H (us.map EE.e) l = .error 4 by rw [entriesH, List.length_map, ← HLen.out, MsgMath.bindP_ok hr, if_neg hn4]; rfl)
      have HR := Lib.hid hr
      clear hr
      go_enter Try.func50, Try.ntmps50
      go_wp2_with fail
      refine HN.out.mono ?_
      intro e w1 h
      obtain ⟨y, U1, rfl, ho, ⟨rfl, -⟩, -, -, -⟩ := h.ok HR.out
      have HO := Lib.hid ho
      clear h ho
      go_wp2_with fail
      rw [show decide ((n : Int) ≤ 4) = false from decide_eq_false (by omega)]
      refine (mask_no 4 (by decide) _).mono ?_
      rintro e w2 ⟨rfl, rfl⟩
      exact ⟨rfl, HEnd.bad HE.out HO.out (by decide)⟩
end
end Go.Proofs.Ytidapdooiibfnaa

