/- Joined: RefRead, RefNum, Region, Facts, RefRaw, BinOwn. -/
import Derived.Test.YtidapdooiibfnaaHB
import Derived.WalkKit
import Derived.Test.YtidapdooiibfnaaHS
/- The reference's reader: a byte, the end, what is left. -/
namespace Go.Proofs.Ytidapdooiibfnaa
set_option maxRecDepth 20000
open Go.RowKit BinMath
variable {G : Nat} {a : Option Addr} {cap : Nat}

/-- The reference's reader in block Q: it stands at place k of the bytes l, which lie in slice a; stuck by st. -/
def IsRef (w : World) (Q G : Nat) (a : Option Addr) (cap : Nat) (l : List UInt8) (k : Nat) (st : Int) : Prop :=
  w.heap[Q]? = some (.cells #[.slice a l.length cap, .int .i64 (k : Int), .int .i64 st] 65 (0, 0)) ∧ k ≤ l.length ∧ l.length ≤ 140737488351232 ∧ (l.length ≤ cap ∧ (a = none → cap = 0)) ∧ G ≤ Q ∧
    ∀ i (h : i < l.length), ∃ ad, a = some ad ∧ ad.block < G ∧ w.cell? (ad.add i) = some (bv l[i])

theorem IsRef.to {w w' : World} {Q : Nat} {l : List UInt8} {k k' : Nat} {st st' : Int} (h : IsRef w Q G a cap l k st) (hfar : ∀ g, g < G → w'.heap[g]? = w.heap[g]?)
    (hQ : w.heap[Q]? = some (.cells #[.slice a l.length cap, .int .i64 (k : Int), .int .i64 st] 65 (0, 0)) → w'.heap[Q]? = some (.cells #[.slice a l.length cap, .int .i64 (k' : Int), .int .i64 st'] 65 (0, 0))) (hk : k' ≤ l.length) : IsRef w' Q G a cap l k' st' := by
  obtain ⟨h1, h2, h3, h4, h5, h6⟩ := h
  refine ⟨hQ h1, hk, h3, h4, h5, fun i hi => ?_⟩
  obtain ⟨ad, e, hg, hc⟩ := h6 i hi
  exact ⟨ad, e, hg, (World.cell?_of_block (by rw [add_block]; exact hfar _ hg)).trans hc⟩

theorem IsRef.facts {w : World} {Q : Nat} {l : List UInt8} {k : Nat} {st : Int} (h : IsRef w Q G a cap l k st) : Q < w.heap.size ∧ k ≤ l.length ∧ l.length ≤ 140737488351232 ∧ G ≤ Q ∧ l.length ≤ cap :=
  ⟨(Array.getElem?_eq_some_iff.1 h.1).1, h.2.1, h.2.2.1, h.2.2.2.2.1, h.2.2.2.1.1⟩

theorem IsRef.drewN {w : World} {Q : Nat} {l : List UInt8} {k : Nat} {st : Int} (h : IsRef w Q G a cap l k st) (n : Nat) : IsRef (w.drewN n) Q G a cap l k st := h

theorem IsRef.only {w w' : World} {Q : Nat} {l : List UInt8} {k : Nat} {st : Int} {S : Nat → Prop} (h : IsRef w Q G a cap l k st) (ho : OnlyS S w w') (hS : ∀ b, b < G → ¬ S b) (hSQ : ¬ S Q) : IsRef w' Q G a cap l k st := by
  have hf := h.facts
  exact h.to (fun g hg => ho.block g (by omega) (hS g hg)) (fun hQ => by rw [ho.block Q hf.1 hSQ]; exact hQ) hf.2.1

theorem IsRef.below {w w' : World} {Q : Nat} {l : List UInt8} {k : Nat} {st : Int} (h : IsRef w Q G a cap l k st) (hb : Below w.heap.size w w') : IsRef w' Q G a cap l k st :=
  h.only (S := fun _ => False) (OnlyS.of_below hb fun _ hk _ => hk) (fun _ _ => id) id

theorem IsRef.step {w : World} {Q : Nat} {l : List UInt8} {k : Nat} {st : Int} (h : IsRef w Q G a cap l k st) {k' : Nat} (hk : k' ≤ l.length) : IsRef (w.setCell ⟨Q, 1, none⟩ (.int .i64 (k' : Int))) Q G a cap l k' st := by
  have hf := h.facts
  exact h.to (fun g hg => heap_set_other (by omega) _) (fun hQ => by rw [heap_set_same hQ]; rfl) hk

theorem IsRef.fail {w : World} {Q : Nat} {l : List UInt8} {k : Nat} {st : Int} (h : IsRef w Q G a cap l k st) {k' : Nat} {c : Int} (hk : k' ≤ l.length) : IsRef ((w.setCell ⟨Q, 2, none⟩ (.int .i64 c)).setCell ⟨Q, 1, none⟩ (.int .i64 (k' : Int))) Q G a cap l k' c := by
  have hf := h.facts
  exact h.to (fun g hg => (heap_set_other (by omega) _).trans (heap_set_other (by omega) _)) (fun hQ => by rw [heap_set_same (heap_set_same hQ _)]; rfl) hk

theorem IsRef.cells {w : World} {Q : Nat} {l : List UInt8} {k : Nat} {st : Int} (h : IsRef w Q G a cap l k st) : w.cell? ⟨Q, 0, none⟩ = some (.slice a l.length cap) ∧ w.cell? ⟨Q, 1, none⟩ = some (.int .i64 (k : Int)) ∧ w.cell? ⟨Q, 2, none⟩ = some (.int .i64 st) ∧ w.frozen? ⟨Q, 1, none⟩ = false ∧ w.frozen? ⟨Q, 2, none⟩ = false :=
  ⟨by rw [cell_of_heap h.1]; rfl, by rw [cell_of_heap h.1]; rfl, by rw [cell_of_heap h.1]; rfl, free_of_heap h.1, free_of_heap h.1⟩

set_option maxHeartbeats 400000 in
theorem refFail_any (Q : Nat) (l : List UInt8) (k at0 : Nat) (st c : Int) (w : World) (h : IsRef w Q G a cap l k st) (hat : at0 ≤ l.length) :
    Calls Try.prog 57 #[.pointer (some ⟨Q, 0, none⟩), .int .i64 c, .int .i64 (at0 : Int)] w fun e w' => e = .returned (.int .i64 c) ∧ IsRef w' Q G a cap l at0 c ∧ Only Q w w' := by
  obtain ⟨c0, c1, c2, f1, f2⟩ := h.cells
  have HI := Lib.hid h
  clear h
  go_enter Try.func57, Try.ntmps57
  go_wp2
  go_ret
  exact ⟨rfl, HI.out.fail hat, ((Only.refl Q w).setR 2 _).setR 1 _⟩

/-- How a call of the reference's reader ends. -/
def RefAnswers (G Q : Nat) (a : Option Addr) (cap : Nat) (l : List UInt8) (w : World) (v : Value) (c k' : Nat) (e : Ending) (w' : World) : Prop :=
  Only Q w w' ∧ e = .returned (.tuple #[v, .int .i64 (c : Int)]) ∧ IsRef w' Q G a cap l k' c

set_option maxHeartbeats 400000 in
theorem refByte_any (Q : Nat) (l : List UInt8) (k st : Nat) (w : World) (h : IsRef w Q G a cap l k st) :
    Calls Try.prog 34 #[.pointer (some ⟨Q, 0, none⟩)] w (RefAnswers G Q a cap l w (.int .u8 ((byteS l k st).1 : Int)) (byteS l k st).2.1 (byteS l k st).2.2) := by
  obtain ⟨c0, c1, c2, f1, f2⟩ := h.cells
  have hf := h.facts
  have HI := Lib.hid h
  by_cases hst : st = 0
  · subst hst
    have hs : (((0 : Nat) : Int) != 0) = false := rfl
    by_cases hlt : k < l.length
    · obtain ⟨ad, ha, hblk, hc⟩ := h.2.2.2.2.2 k hlt
      have hq : byteS l k 0 = (l[k].toNat, 0, k + 1) := by simp only [byteS, List.drop_eq_getElem_cons hlt]; rfl
      rw [hq]
      obtain ⟨y, hy⟩ : ∃ y, y = l[k].toNat := ⟨_, rfl⟩
      unfold bv at hc
      rw [← hy] at hc ⊢
      have hki : (k : Int) < (l.length : Int) := by omega
      have hki2 : ¬ ((l.length : Int) ≤ (k : Int)) := by omega
      obtain ⟨n, hn⟩ : ∃ n, n = l.length := ⟨_, rfl⟩
      have hb : ¬ ad.block = Q := by omega
      rw [← hn] at c0 hki hki2
      have HLn := Lib.hid hn
      subst ha
      have hnl : n ≤ 140737488351232 := by omega
      have hc' : ∀ q, ((w.drewN q).setCell ⟨Q, 1, none⟩ (.int .i64 ((k : Int) + 1))).cell? (ad.add k) = some (.int .u8 (y : Int)) := fun q => by
        rw [← hc]
        exact World.cell?_of_block (by rw [add_block]; exact heap_set_other hb _)
      have hst1 : IsRef (w.setCell ⟨Q, 1, none⟩ (.int .i64 ((k + 1 : Nat) : Int))) Q G (some ad) cap l (k + 1) 0 := h.step (by omega)
      have HSt := Lib.hid hst1
      clear hst1
      have HF := Lib.hid hf
      have HC := Lib.hid hc'
      clear h hq hy hn hf hc hc'
      go_enter Try.func34, Try.ntmps34
      go_wp2
      go_quiet (fail)
      go_wp2
      have hv1 : IsRef ((w.drewN nq).setCell ⟨Q, 1, none⟩ (.int .i64 ((k : Int) + 1))) Q G (some ad) cap l (k + 1) 0 := HSt.out.drewN nq
      have ho1 : Only Q w ((w.drewN nq).setCell ⟨Q, 1, none⟩ (.int .i64 ((k : Int) + 1))) := ((Only.refl Q w).drewN nq).setR 1 _
      obtain ⟨v, hv⟩ : ∃ v, v = (w.drewN nq).setCell ⟨Q, 1, none⟩ (.int .i64 ((k : Int) + 1)) := ⟨_, rfl⟩
      have hcv := HC.out nq
      rw [← hv] at hcv hv1 ho1 ⊢
      obtain ⟨d0, d1, -⟩ := hv1.cells
      have hw1 : IntKind.i64.wrap ((k : Int) + 1 - 1) = (k : Int) := by rw [show (k : Int) + 1 - 1 = k by omega]; exact IntWalk.i64_in _ ⟨by omega, by omega⟩
      have d1' : v.cell? ⟨Q, 1, none⟩ = some (.int .i64 ((k : Int) + 1)) := d1
      rw [← HLn.out] at d0
      have HV1 := Lib.hid hv1
      have HO1 := Lib.hid ho1
      clear hv c0 c1 c2 f1 f2 d1 hv1 ho1
      go_quiet (fail)
      clear hw1
      go_wp2
      exact bodyPost_ret (v := .tuple #[.int .u8 (y : Int), .int .i64 0]) (by simp [results, Try.results34, go_sem]) rfl ⟨HO1.out.drewN _, rfl, HV1.out.drewN _⟩
    · have hq : byteS l k 0 = (0, 2, k) := by simp only [byteS, List.drop_eq_nil_of_le (Nat.le_of_not_lt hlt)]; rfl
      rw [hq]
      have hF := fun n => refFail_any Q l k k 0 2 (w.drewN n) (HI.out.drewN n) hf.2.1
      have hki2 : ((l.length : Int) ≤ (k : Int)) := by omega
      obtain ⟨n, hn⟩ : ∃ n, n = l.length := ⟨_, rfl⟩
      rw [← hn] at c0 hki2
      have HF := Lib.hid hF
      clear h hq hn hf hF
      go_enter Try.func34, Try.ntmps34
      go_wp2
      go_quiet (fail)
      go_wp2_with fail
      refine (HF.out nq).mono ?_
      rintro e w1 ⟨rfl, hr, ho⟩
      have HR := Lib.hid hr
      have HO := Lib.hid ho
      clear hr ho
      go_wp2
      exact bodyPost_ret (v := .tuple #[.int .u8 0, .int .i64 2]) (by simp [results, Try.results34, go_sem]) rfl ⟨((Only.refl Q w).drewN nq).trans HO.out, rfl, HR.out⟩
  · have hq : byteS l k st = (0, st, k) := if_pos hst
    rw [hq]
    have hs : ((st : Int) != 0) = true := by simp; omega
    clear h hq hf hst
    go_enter Try.func34, Try.ntmps34
    go_wp2
    go_quiet (fail)
    go_wp2
    exact bodyPost_ret (v := .tuple #[.int .u8 0, .int .i64 (st : Int)]) (by simp [results, Try.results34, go_sem]) rfl ⟨(Only.refl Q w).drewN _, rfl, HI.out.drewN _⟩

set_option maxHeartbeats 400000 in
theorem refEnd_any (Q : Nat) (l : List UInt8) (k st : Nat) (w : World) (h : IsRef w Q G a cap l k st) :
    Calls Try.prog 40 #[.pointer (some ⟨Q, 0, none⟩)] w fun e w' => e = .returned (.int .i64 (endS l k st : Int)) ∧ IsRef w' Q G a cap l k (endS l k st) ∧ Only Q w w' := by
  obtain ⟨c0, c1, c2, f1, f2⟩ := h.cells
  have hf := h.facts
  have HI := Lib.hid h
  obtain ⟨n, hn⟩ : ∃ n, n = l.length := ⟨_, rfl⟩
  by_cases hst : st = 0
  · subst hst
    have hs : (((0 : Nat) : Int) != 0) = false := rfl
    by_cases hlt : k < l.length
    · have hq : endS l k 0 = 5 := by simp [endS, hlt]
      rw [hq]
      have hF := fun n => refFail_any Q l k k 0 5 (w.drewN n) (HI.out.drewN n) hf.2.1
      have hki2 : ((k : Int) < (l.length : Int)) := by omega
      rw [← hn] at c0 hki2
      have HF := Lib.hid hF
      clear h hq hn hf hF
      go_enter Try.func40, Try.ntmps40
      go_wp2
      go_quiet (fail)
      go_wp2_with fail
      refine (HF.out nq).mono ?_
      rintro e w1 ⟨rfl, hr, ho⟩
      have HR := Lib.hid hr
      have HO := Lib.hid ho
      clear hr ho
      go_wp2
      go_ret
      exact ⟨rfl, HR.out, ((Only.refl Q w).drewN nq).trans HO.out⟩
    · have hq : endS l k 0 = 0 := by simp [endS, hlt]
      rw [hq]
      have hki2 : ¬ ((k : Int) < (l.length : Int)) := by omega
      rw [← hn] at c0 hki2
      clear h hq hn hf
      go_enter Try.func40, Try.ntmps40
      go_wp2
      go_quiet (fail)
      go_wp2
      go_ret
      exact ⟨rfl, HI.out.drewN _, (Only.refl Q w).drewN _⟩
  · have hq : endS l k st = st := if_pos hst
    rw [hq]
    have hs : ((st : Int) != 0) = true := by simp; omega
    clear h hq hf hst
    go_enter Try.func40, Try.ntmps40
    go_wp2
    go_ret
    exact ⟨rfl, HI.out, Only.refl Q w⟩

end Go.Proofs.Ytidapdooiibfnaa

/- The reference's reader: a number. -/
namespace Go.Proofs.Ytidapdooiibfnaa
set_option maxRecDepth 20000
open Go.RowKit BinMath
variable {G : Nat} {a : Option Addr} {cap : Nat}

/-- 'n*256 + c'. -/
theorem times_plus (acc c i : Nat) (hi : i < 8) (ha : acc < 256 ^ i) (hc : c < 256) : IntKind.u64.wrap (IntKind.u64.wrap ((acc : Int) * 256) + (c : Int)) = ((acc * 256 + c : Nat) : Int) := by
  have h7 : 256 ^ i ≤ 256 ^ 7 := Nat.pow_le_pow_right (by decide) (by omega)
  have e7 : (256 : Nat) ^ 7 = 72057594037927936 := by decide
  have e : IntKind.u64.wrap ((acc : Int) * 256) = (acc : Int) * 256 := IntWalk.u64_in _ ⟨by omega, by omega⟩
  rw [e, IntWalk.u64_in _ ⟨by omega, by omega⟩]
  omega

theorem numS_open (l : List UInt8) (k : Nat) : numS l k 0 = match pNum (l.drop k) with
    | .ok (n, u) => (n, 0, k + u)
    | .error c => (0, c, k) := by
  simp only [numS]
  rcases pNum (l.drop k) with c | ⟨n, u⟩ <;> rfl

theorem byteS_at {l : List UInt8} {k : Nat} (h : k < l.length) : byteS l k 0 = (l[k].toNat, 0, k + 1) := by
  simp only [byteS, List.drop_eq_getElem_cons h]; rfl

theorem byteS_past {l : List UInt8} {k : Nat} (h : ¬ k < l.length) : byteS l k 0 = (0, 2, k) := by
  simp only [byteS, List.drop_eq_nil_of_le (Nat.le_of_not_lt h)]; rfl

set_option maxHeartbeats 400000 in
/-- Where the first byte isn't to be had. -/
theorem refNum_none (Q : Nat) (l : List UInt8) (k st c : Nat) (w : World) (h : IsRef w Q G a cap l k st) (hb : byteS l k st = (0, c, k)) (hc : c ≠ 0) :
    Calls Try.prog 58 #[.pointer (some ⟨Q, 0, none⟩)] w (RefAnswers G Q a cap l w (.int .u64 0) c k) := by
  obtain ⟨c0, c1, c2, f1, f2⟩ := h.cells
  have hB := refByte_any Q l k st w h
  rw [hb] at hB
  have hs : ((c : Int) != 0) = true := by simp; omega
  have HB := Lib.hid hB
  clear hB h hb hc
  go_enter Try.func58, Try.ntmps58
  go_wp2_with fail
  refine HB.out.mono ?_
  rintro e w1 ⟨ho, rfl, hr⟩
  have HR := Lib.hid hr
  have HO := Lib.hid ho
  clear hr ho
  go_wp2
  exact bodyPost_ret (v := .tuple #[.int .u64 0, .int .i64 (c : Int)]) (by simp [results, Try.results58, go_sem]) rfl ⟨HO.out, rfl, HR.out⟩

set_option maxHeartbeats 1000000 in
theorem refNum_some (Q : Nat) (l : List UInt8) (k : Nat) (w : World) (h : IsRef w Q G a cap l k 0) (hlt : k < l.length) :
    Calls Try.prog 58 #[.pointer (some ⟨Q, 0, none⟩)] w (RefAnswers G Q a cap l w (.int .u64 ((numS l k 0).1 : Int)) (numS l k 0).2.1 (numS l k 0).2.2) := by
  obtain ⟨c0, c1, c2, f1, f2⟩ := h.cells
  have hf := h.facts
  have hB := refByte_any Q l k 0 w h
  rw [byteS_at hlt] at hB
  have hdr : l.drop k = l[k] :: l.drop (k + 1) := by rw [List.drop_eq_getElem_cons hlt]
  obtain ⟨y, hy⟩ : ∃ y, y = l[k].toNat := ⟨_, rfl⟩
  have hyb : y < 256 := by rw [hy]; exact l[k].toNat_lt
  rw [← hy] at hB
  have HY := Lib.hid hy
  have HD := Lib.hid hdr
  have HF := Lib.hid hf
  have HB := Lib.hid hB
  clear hy hdr hB hf
  obtain ⟨n, c, k', hq⟩ : ∃ n c k', numS l k 0 = (n, c, k') := ⟨_, _, _, rfl⟩
  rw [hq]
  have HQ := Lib.hid hq
  clear hq
  have hsz : (((0 : Nat) : Int) != 0) = false := rfl
  by_cases h8 : 8 < y
  · have h8' : ((8 : Int) < (y : Int)) := by omega
    go_enter Try.func58, Try.ntmps58
    go_wp2_with fail
    refine HB.out.mono ?_
    rintro e w1 ⟨ho, rfl, hr⟩
    have HR := Lib.hid hr
    have HO := Lib.hid ho
    have hF := refFail_any Q l (k + 1) k 0 3 w1 hr (by have := HF.out; omega)
    have HFl := Lib.hid hF
    clear hr ho hF h
    go_wp2_with fail
    refine HFl.out.mono ?_
    rintro e w2 ⟨rfl, hr, ho⟩
    have HR2 := Lib.hid hr
    have HO2 := Lib.hid ho
    clear hr ho
    go_wp2
    have hq := HQ.out
    have e : numS l k 0 = (0, 3, k) := by simp only [numS, HD.out, pNum, if_pos (show 8 < l[k].toNat by rw [← HY.out]; exact h8)]; rfl
    rw [e] at hq
    cases hq
    exact bodyPost_ret (v := .tuple #[.int .u64 0, .int .i64 3]) (by simp [results, Try.results58, go_sem]) rfl ⟨HO.out.trans HO2.out, rfl, HR2.out⟩
  · have h8' : ¬ ((8 : Int) < (y : Int)) := by omega
    go_enter Try.func58, Try.ntmps58
    go_wp2_with fail
    refine HB.out.mono ?_
    rintro e w1 ⟨ho, rfl, hr⟩
    have HR := Lib.hid hr
    have HO := Lib.hid ho
    clear hr ho h
    go_wp2_with fail
    clear h8'
    go_loopw [7, 8] (fun s7 s8 wr => ∃ i acc : Nat, i ≤ y ∧ s8 = .int .i64 (i : Int) ∧ s7 = .int .u64 (acc : Int) ∧ acc < 256 ^ i ∧ IsRef wr Q G a cap l (k + 1 + i) 0 ∧ Only Q w wr ∧ digs (y - i) (i == 0) acc (l.drop (k + 1 + i)) = digs y true 0 (l.drop (k + 1))) (fun _ s8 _ => (y - intOf s8).toNat)
    case atStart => exact ⟨0, 0, Nat.zero_le _, rfl, rfl, by simp, HR.out, HO.out, rfl⟩
    case round =>
      obtain ⟨i, acc, hi, rfl, rfl, hacc, hrd, hon, heq⟩ := hrel
      have HA := Lib.hid hacc
      have HRd := Lib.hid hrd
      have HOn := Lib.hid hon
      have HE := Lib.hid heq
      have hN := refByte_any Q l (k + 1 + i) 0 wr hrd
      clear hacc hrd hon heq
      by_cases hiy : i < y
      · have hiy' : ((i : Int) < (y : Int)) := by omega
        by_cases hin : k + 1 + i < l.length
        · rw [byteS_at hin] at hN
          obtain ⟨d, hd⟩ : ∃ d, d = l[k + 1 + i].toNat := ⟨_, rfl⟩
          have hcb : d < 256 := by rw [hd]; exact UInt8.toNat_lt _
          rw [← hd] at hN
          have hdr : l.drop (k + 1 + i) = l[k + 1 + i] :: l.drop (k + 1 + i + 1) := List.drop_eq_getElem_cons hin
          have hdig : digs (y - i) (i == 0) acc (l.drop (k + 1 + i)) = if (i == 0) && d == 0 then .error 3 else digs (y - (i + 1)) false (acc * 256 + d) (l.drop (k + 1 + i + 1)) := by
            rw [show y - i = y - (i + 1) + 1 by omega, hdr, digs, hd]
          have HDg := Lib.hid hdig
          have HN := Lib.hid hN
          clear hd hdr hdig hN
          go_wp2_with fail
          refine HN.out.mono ?_
          rintro e w2 ⟨ho2, rfl, hr2⟩
          have HR2 := Lib.hid hr2
          have HO2 := Lib.hid ho2
          have hF := refFail_any Q l (k + 1 + i + 1) k 0 3 w2 hr2 (by have := HF.out; omega)
          have HFl := Lib.hid hF
          clear hr2 ho2 hF
          by_cases h0 : i = 0
          · by_cases hc0 : d = 0
            · have e1 : ((i : Int) == 0) = true := by simp; omega
              have e2 : ((d : Int) == 0) = true := by simp; omega
              have H0 := Lib.hid h0
              have HC0 := Lib.hid hc0
              clear h0 hc0
              go_wp2_with fail
              refine HFl.out.mono ?_
              rintro e w3 ⟨rfl, hr, ho⟩
              have HR3 := Lib.hid hr
              have HO3 := Lib.hid ho
              clear hr ho
              go_wp2
              have hq := HQ.out
              have e : numS l k 0 = (0, 3, k) := by
                rw [numS_open, pNum_eq HD.out HY.out h8, ← HE.out, HDg.out, if_pos (by rw [H0.out, HC0.out]; rfl)]
              rw [e] at hq
              cases hq
              exact bodyPost_ret (v := .tuple #[.int .u64 0, .int .i64 3]) (by simp [results, Try.results58, go_sem]) rfl ⟨(HOn.out.trans HO2.out).trans HO3.out, rfl, HR3.out⟩
            · have e1 : ((i : Int) == 0) = true := by simp; omega
              have e2 : ((d : Int) == 0) = false := by simp; omega
              have H0 := Lib.hid h0
              have HC0 := Lib.hid hc0
              clear h0 hc0
              go_wp2
              go_roundw
              case rel =>
                refine ⟨i + 1, acc * 256 + d, by omega, by go_num, congrArg (Value.int IntKind.u64) (times_plus acc d i (by omega) HA.out hcb), ?_, HR2.out, HOn.out.trans HO2.out, ?_⟩
                · have := HA.out; rw [Nat.pow_succ]; omega
                · rw [← HE.out, HDg.out, if_neg (by simp; exact fun _ => HC0.out)]; rfl
              case measure => simp [intOf]; omega
          · have e1 : ((i : Int) == 0) = false := by simp; omega
            have H0 := Lib.hid h0
            clear h0
            go_wp2
            go_roundw
            case rel =>
              refine ⟨i + 1, acc * 256 + d, by omega, by go_num, congrArg (Value.int IntKind.u64) (times_plus acc d i (by omega) HA.out hcb), ?_, HR2.out, HOn.out.trans HO2.out, ?_⟩
              · have := HA.out; rw [Nat.pow_succ]; omega
              · rw [← HE.out, HDg.out, if_neg (by simp; exact fun h => absurd h H0.out)]; rfl
            case measure => simp [intOf]; omega
        · rw [byteS_past hin] at hN
          have HN := Lib.hid hN
          clear hN
          go_wp2_with fail
          refine HN.out.mono ?_
          rintro e w2 ⟨ho2, rfl, hr2⟩
          have HO2 := Lib.hid ho2
          have hF := refFail_any Q l (k + 1 + i) k 2 2 w2 hr2 (by have := HF.out; omega)
          have HFl := Lib.hid hF
          clear hr2 ho2 hF
          go_wp2_with fail
          refine HFl.out.mono ?_
          rintro e w3 ⟨rfl, hr, ho⟩
          have HR3 := Lib.hid hr
          have HO3 := Lib.hid ho
          clear hr ho
          go_wp2
          have hq := HQ.out
          have e : numS l k 0 = (0, 2, k) := by
            rw [numS_open, pNum_eq HD.out HY.out h8, ← HE.out, List.drop_eq_nil_of_le (by omega), show y - i = y - (i + 1) + 1 by omega, digs]
          rw [e] at hq
          cases hq
          exact bodyPost_ret (v := .tuple #[.int .u64 0, .int .i64 2]) (by simp [results, Try.results58, go_sem]) rfl ⟨(HOn.out.trans HO2.out).trans HO3.out, rfl, HR3.out⟩
      · have hiy' : ¬ ((i : Int) < (y : Int)) := by omega
        clear hN
        go_wp2
        have hq := HQ.out
        have e : numS l k 0 = (acc, 0, k + (y + 1)) := by
          rw [numS_open, pNum_eq HD.out HY.out h8, ← HE.out, show y - i = 0 by omega, digs]
        rw [e] at hq
        cases hq
        have hrd := HRd.out
        rw [show k + 1 + i = k + (y + 1) by omega] at hrd
        exact bodyPost_ret (v := .tuple #[.int .u64 (n : Int), .int .i64 0]) (by simp [results, Try.results58, go_sem]) rfl ⟨HOn.out, rfl, hrd⟩

theorem refNum_any (Q : Nat) (l : List UInt8) (k st : Nat) (w : World) (h : IsRef w Q G a cap l k st) :
    Calls Try.prog 58 #[.pointer (some ⟨Q, 0, none⟩)] w (RefAnswers G Q a cap l w (.int .u64 ((numS l k st).1 : Int)) (numS l k st).2.1 (numS l k st).2.2) := by
  by_cases hst : st = 0
  · subst hst
    by_cases hlt : k < l.length
    · exact refNum_some Q l k w h hlt
    · have e : numS l k 0 = (0, 2, k) := by simp only [numS, List.drop_eq_nil_of_le (Nat.le_of_not_lt hlt)]; rfl
      rw [e]
      exact refNum_none Q l k 0 2 w h (byteS_past hlt) (by decide)
  · have e : numS l k st = (0, st, k) := if_pos hst
    rw [e]
    exact refNum_none Q l k st st w h (if_pos hst) hst

end Go.Proofs.Ytidapdooiibfnaa

/- A region that draws its order, whose operations only add to the memory: each operation has a fact about its value that stays true while the memory grows; whatever the order, all facts hold at the end. -/
namespace Go.Proofs.Ytidapdooiibfnaa.Reg
set_option maxRecDepth 20000
open Go

/-- What an operand is, the slots given as a function. -/
def evalBy (x : Tmp → Value) : Operand → Value
  | .tmp t => x t
  | .const v => v
  | .global g => .pointer (some ⟨g, 0, none⟩)
  | .func f => .func (.func f) #[] #[]

theorem evalBy_eq (a : Act) : a.eval = evalBy (fun t => a.tmps.getD t undef) := by
  funext o; cases o <;> rfl

/-- The operation's run ends with a value of which R holds in the world that it leaves. -/
def givesUpon (P : Program) (R : Value → World → Prop) : Result Next → Prop
  | .ok (.value v) w' => R v w'
  | .ok .skip w' => R undef w'
  | .ok (.enter f args) w' => Calls P f args w' (fun e w'' => ∃ v, e = .returned v ∧ R v w'')
  | _ => False

def gives (P : Program) (o : Oper) (x : Tmp → Value) (w : World) (R : Value → World → Prop) : Prop := givesUpon P R ((execOp (evalBy x) o).run P w)

theorem gives_value {P : Program} {o : Oper} {x : Tmp → Value} {w w' : World} {R : Value → World → Prop} {v : Value} (h : (execOp (evalBy x) o).run P w = .ok (.value v) w') (hR : R v w') : gives P o x w R := by
  unfold gives; rw [h]; exact hR

theorem gives_enter {P : Program} {o : Oper} {x : Tmp → Value} {w w' : World} {R : Value → World → Prop} {f : FuncId} {args : Array Value} (h : (execOp (evalBy x) o).run P w = .ok (.enter f args) w') (hR : Calls P f args w' (fun e w'' => ∃ v, e = .returned v ∧ R v w'')) : gives P o x w R := by
  unfold gives; rw [h]; exact hR

theorem wp_of_gives {P : Program} {o : Oper} {a : Act} {w : World} {R : Value → World → Prop} {K : Act → World → Prop} {Q : Exit → Act → World → Prop}
    (h : gives P o (fun t => a.tmps.getD t undef) w R) (hK : ∀ v w', R v w' → K (a.put o.dst v) w') : o.wp P a w K Q := by
  unfold gives at h
  rw [← evalBy_eq] at h
  unfold Oper.wp
  generalize (execOp a.eval o).run P w = r at *
  cases r with
  | ok n w' =>
    cases n <;> simp only [givesUpon] at h <;> simp only [Oper.upon]
    case value u => exact hK _ _ h
    case skip => exact hK _ _ h
    case enter f args => exact h.mono fun e w'' ⟨v, he, hv⟩ => by subst he; exact hK _ _ hv
  | halt x w' => simp only [givesUpon] at h

/-- Slot k is written by no operation that is still to come. -/
def known (ops : Array Oper) (listed : Array Bool) (k : Tmp) : Prop := ∀ (i : Nat) (o : Oper), ops[i]? = some o → o.dst = some k → listed.getD i false = true

/-- Every operation waits for those whose values it looks at; every edge leads back. -/
def sound (ops : Array Oper) : Bool :=
  (List.range ops.size).all fun i => match ops[i]? with
    | none => true
    | some o => (o.after.all fun e => !Region.binds .any e || decide (e.on < i)) &&
        (o.looksAt ops).all fun k => (List.range ops.size).all fun j => match ops[j]? with
          | none => true
          | some o' => o'.dst != some k || o.after.any fun e => Region.binds .any e && e.on == j

/-- The guard, the slots given as a function. -/
def wantedBy (ops : Array Oper) (o : Oper) (x : Tmp → Value) : Prop :=
  match o.guard with
  | none => True
  | some (j, want) => ∃ d, (ops[j]?).bind (·.dst) = some d ∧ x d = .bool want

/-- The operations that one waits for, directly. -/
def preds (ops : Array Oper) (i : Nat) : List Nat := match ops[i]? with
  | some o => (o.after.toList.filter (Region.binds .any)).map (·.on)
  | none => []

/-- All that each operation waits for, through whatever chain: a table, and the look whether it is no more than that. -/
def table (ops : Array Oper) : List (List Nat) :=
  (List.range ops.size).foldl (fun acc i => acc ++ [((preds ops i) ++ (preds ops i).flatMap fun m => acc.getD m []).eraseDups]) []

def tableOk (ops : Array Oper) (tab : List (List Nat)) : Bool :=
  (List.range ops.size).all fun i => (tab.getD i []).all fun j => (preds ops i).contains j || (preds ops i).any fun m => decide (m < i) && (tab.getD m []).contains j

/-- Behind operation i the value in slot k may still be looked at: it is wanted at the end, or by an operation that i doesn't wait for. -/
def live (ops : Array Oper) (tab : List (List Nat)) (fin : List Tmp) (i : Nat) (k : Tmp) : Bool :=
  fin.contains k || (List.range ops.size).any fun j => match ops[j]? with
    | some o => (o.looksAt ops).contains k && !(j == i) && !(tab.getD i []).contains j
    | none => false

/-- What is asked of one operation. -/
def asked (P : Program) (ops : Array Oper) (tab : List (List Nat)) (fin : List Tmp) (G : World → Prop) (F : Tmp → Value → World → Prop) (i : Nat) (o : Oper) : Prop :=
  ∀ (x : Tmp → Value) (W : World), G W → (∀ k, (o.looksAt ops).contains k = true → F k (x k) W) →
    wantedBy ops o x ∧ gives P o x W (fun v W' => G W' ∧ (∀ k u, o.dst ≠ some k → live ops tab fin i k = true → F k u W → F k u W') ∧ ∀ k, o.dst = some k → F k v W')

/-- A slot's value is still wanted. -/
def wantedStill (ops : Array Oper) (fin : List Tmp) (listed : Array Bool) (k : Tmp) : Prop :=
  fin.contains k = true ∨ ∃ (j : Nat) (o : Oper), ops[j]? = some o ∧ (o.looksAt ops).contains k = true ∧ listed.getD j false = false

structure Inv (ops : Array Oper) (fin : List Tmp) (G : World → Prop) (F : Tmp → Value → World → Prop) (a0 : Act) (listed : Array Bool) (a : Act) (W : World) : Prop where
  grown : G W
  defers : a.defers = a0.defers
  size : a.tmps.size = a0.tmps.size
  lsize : listed.size = ops.size
  down : ∀ (i : Nat) (o : Oper), ops[i]? = some o → listed.getD i false = true → ∀ j ∈ preds ops i, listed.getD j false = true
  facts : ∀ k, known ops listed k → wantedStill ops fin listed k → F k (a.tmps.getD k undef) W

theorem mem_set {listed : Array Bool} {i j : Nat} (h : (listed.setIfInBounds i true).getD j false = true) : j = i ∨ listed.getD j false = true := by
  by_cases hij : j = i
  · exact .inl hij
  · right
    rw [Array.getD_eq_getD_getElem?, Array.getElem?_setIfInBounds_ne (Ne.symm hij), ← Array.getD_eq_getD_getElem?] at h
    exact h

theorem set_mem {listed : Array Bool} {i j : Nat} (h : listed.getD j false = true) : (listed.setIfInBounds i true).getD j false = true := by
  by_cases hij : i = j
  · subst hij
    have hlt : i < listed.size := by
      rcases Nat.lt_or_ge i listed.size with h1 | h1
      · exact h1
      · rw [Array.getD_eq_getD_getElem?, Array.getElem?_eq_none h1] at h; cases h
    rw [Array.getD_eq_getD_getElem?, Array.getElem?_setIfInBounds_self_of_lt hlt]; rfl
  · rw [Array.getD_eq_getD_getElem?, Array.getElem?_setIfInBounds_ne hij, ← Array.getD_eq_getD_getElem?]
    exact h

theorem set_self {listed : Array Bool} {i : Nat} (hlt : i < listed.size) : (listed.setIfInBounds i true).getD i false = true := by
  rw [Array.getD_eq_getD_getElem?, Array.getElem?_setIfInBounds_self_of_lt hlt]; rfl

theorem mem_preds {ops : Array Oper} {i : Nat} {o : Oper} (hi : ops[i]? = some o) {j : Nat} : j ∈ preds ops i ↔ ∃ e ∈ o.after, Region.binds .any e = true ∧ e.on = j := by
  unfold preds
  rw [hi]
  simp only [List.mem_map, List.mem_filter, Array.mem_toList_iff]
  constructor
  · rintro ⟨e, ⟨h1, h2⟩, h3⟩; exact ⟨e, h1, h2, h3⟩
  · rintro ⟨e, h1, h2, h3⟩; exact ⟨e, ⟨h1, h2⟩, h3⟩

/-- Whatever an operation waits for through a chain is listed, once its direct ones are. -/
theorem table_listed {ops : Array Oper} {tab : List (List Nat)} (ht : tableOk ops tab = true) {listed : Array Bool}
    (hdown : ∀ (i : Nat) (o : Oper), ops[i]? = some o → listed.getD i false = true → ∀ j ∈ preds ops i, listed.getD j false = true) :
    ∀ (i : Nat), i < ops.size → (∀ j ∈ preds ops i, listed.getD j false = true) → ∀ j ∈ tab.getD i [], listed.getD j false = true := by
  intro i
  induction i using Nat.strongRecOn with
  | ind i ih =>
    intro hi hp j hj
    unfold tableOk at ht
    have h1 := List.all_eq_true.1 ht i (List.mem_range.2 hi)
    have h2 := List.all_eq_true.1 h1 j hj
    rw [Bool.or_eq_true] at h2
    rcases h2 with h2 | h2
    · exact hp j (by simpa using h2)
    · obtain ⟨m, hm, h3⟩ := List.any_eq_true.1 h2
      simp only [Bool.and_eq_true, decide_eq_true_eq] at h3
      have hml : m < ops.size := by omega
      exact ih m h3.1 hml (hdown m ops[m] (by simp [hml]) (hp m hm)) j (by simpa using h3.2)

theorem inv_step {ops : Array Oper} {tab : List (List Nat)} {fin : List Tmp} {G : World → Prop} {F : Tmp → Value → World → Prop} {a0 a : Act} {listed : Array Bool} {W W' : World} {i : Nat} {o : Oper} {v : Value}
    (ht : tableOk ops tab = true) (h : Inv ops fin G F a0 listed a W) (hi : ops[i]? = some o) (hp : ∀ j ∈ preds ops i, listed.getD j false = true) (hd : ∀ d, o.dst = some d → d < a0.tmps.size) (hG : G W')
    (hm : ∀ k u, o.dst ≠ some k → live ops tab fin i k = true → F k u W → F k u W') (hv : ∀ k, o.dst = some k → F k v W') :
    Inv ops fin G F a0 (listed.setIfInBounds i true) (a.put o.dst v) W' := by
  have hil : i < ops.size := (Array.getElem?_eq_some_iff.1 hi).1
  refine ⟨hG, ?_, ?_, by simpa using h.lsize, ?_, ?_⟩
  · cases hdst : o.dst <;> simp [Act.put, h.defers]
  · cases hdst : o.dst <;> simp [Act.put, h.size]
  · intro j oj hj hlj m hmj
    rcases mem_set hlj with rfl | hlj
    · exact set_mem (hp m hmj)
    · exact set_mem (h.down j oj hj hlj m hmj)
  · intro k hk hw
    by_cases hkd : o.dst = some k
    · have := hv k hkd
      have hlt : k < a.tmps.size := by rw [h.size]; exact hd k hkd
      rw [hkd]
      simp only [Act.put, Array.getD_eq_getD_getElem?, Array.getElem?_setIfInBounds_self_of_lt hlt, Option.getD_some]
      exact this
    · have e : (a.put o.dst v).tmps.getD k undef = a.tmps.getD k undef := by
        cases hdst : o.dst with
        | none => rfl
        | some d =>
          have : d ≠ k := fun e => hkd (by rw [hdst, e])
          simp only [Act.put, Array.getD_eq_getD_getElem?, Array.getElem?_setIfInBounds_ne this]
      rw [e]
      have hlive : live ops tab fin i k = true := by
        unfold live
        rw [Bool.or_eq_true]
        rcases hw with hw | ⟨j, oj, hj, hl, hun⟩
        · exact .inl hw
        · right
          refine List.any_eq_true.2 ⟨j, List.mem_range.2 (Array.getElem?_eq_some_iff.1 hj).1, ?_⟩
          have hji : j ≠ i := by
            rintro rfl
            rw [set_self (by rw [h.lsize]; exact hil)] at hun
            cases hun
          have hjt : (tab.getD i []).contains j = false := by
            cases hq : (tab.getD i []).contains j with
            | false => rfl
            | true =>
              have h1 := table_listed ht h.down i hil hp j (by simpa using hq)
              rw [set_mem h1] at hun
              cases hun
          have hji' : (j == i) = false := by simpa using hji
          simp only [hj, hl, hjt, hji', Bool.not_false, Bool.and_self]
      refine hm _ _ hkd hlive (h.facts k (fun j oj hj hdj => ?_) ?_)
      · rcases mem_set (hk j oj hj hdj) with rfl | h2
        · rw [hi] at hj
          cases hj
          exact absurd hdj hkd
        · exact h2
      · rcases hw with hw | ⟨j, oj, hj, hl, hun⟩
        · exact .inl hw
        · refine .inr ⟨j, oj, hj, hl, ?_⟩
          cases hq : listed.getD j false with
          | false => rfl
          | true => rw [set_mem hq] at hun; cases hun

theorem sound_edge {ops : Array Oper} (h : sound ops = true) {i : Nat} {o : Oper} (hi : ops[i]? = some o) : (∀ e ∈ o.after, Region.binds .any e = true → e.on < i) ∧
    ∀ k ∈ o.looksAt ops, ∀ j o', ops[j]? = some o' → o'.dst = some k → ∃ e ∈ o.after, Region.binds .any e = true ∧ e.on = j := by
  unfold sound at h
  rw [List.all_eq_true] at h
  have hlt : i < ops.size := (Array.getElem?_eq_some_iff.1 hi).1
  have h1 := h i (List.mem_range.2 hlt)
  simp only [hi, Bool.and_eq_true, List.all_eq_true, List.mem_range] at h1
  obtain ⟨h2, h3⟩ := h1
  refine ⟨fun e he hb => ?_, fun k hk j o' hj hd => ?_⟩
  · have := Array.all_eq_true_iff_forall_mem.1 h2 e he
    simpa [hb] using this
  · have := h3 k hk j (Array.getElem?_eq_some_iff.1 hj).1
    simp only [hj, hd, bne_self_eq_false, Bool.false_or] at this
    obtain ⟨e, he, h4⟩ := Array.any_eq_true'.1 this
    simp only [Bool.and_eq_true, beq_iff_eq] at h4
    exact ⟨e, he, h4.1, h4.2⟩

theorem wanted_of {ops : Array Oper} {o : Oper} {a : Act} (h : wantedBy ops o (fun t => a.tmps.getD t undef)) : Region.wanted o (yielded ops a.tmps) = true := by
  unfold wantedBy at h
  unfold Region.wanted
  cases hg : o.guard with
  | none => rfl
  | some p =>
    obtain ⟨j, want⟩ := p
    rw [hg] at h
    obtain ⟨d, hd, hx⟩ := h
    have : a.tmps[d]? = some (.bool want) := by
      have hx : a.tmps.getD d undef = .bool want := hx
      rw [Array.getD_eq_getD_getElem?] at hx
      cases hq : a.tmps[d]? with
      | none => rw [hq] at hx; simp [undef] at hx
      | some u => rw [hq] at hx; simpa using hx
    simp [yielded, hd, this]

/-- How many have not come up. -/
def left (listed : Array Bool) : Nat := (listed.toList.filter (!·)).length

theorem count_set (l : List Bool) : ∀ i, l[i]? = some false → ((l.set i true).filter (!·)).length + 1 = (l.filter (!·)).length := by
  induction l with
  | nil => intro i h; simp at h
  | cons b l ih =>
    intro i h
    cases i with
    | zero => simp at h; subst h; simp
    | succ i =>
      have := ih i (by simpa using h)
      cases b <;> simp at this ⊢ <;> omega

theorem left_set {listed : Array Bool} {i : Nat} (h : listed.getD i true = false) : left (listed.setIfInBounds i true) + 1 = left listed := by
  have hi : i < listed.size := by
    rcases Nat.lt_or_ge i listed.size with h1 | h1
    · exact h1
    · rw [Array.getD_eq_getD_getElem?, Array.getElem?_eq_none h1] at h; cases h
  unfold left
  rw [Array.toList_setIfInBounds]
  refine count_set _ _ ?_
  rw [Array.getD_eq_getD_getElem?, Array.getElem?_eq_getElem hi] at h
  simp [hi]
  simpa using h

/-- Where nothing may come up all has come up: the least that has not could. -/
theorem all_listed {ops : Array Oper} (hs : sound ops = true) {listed : Array Bool} (hl : listed.size = ops.size) (hr : Region.ready .any ops listed = []) : ∀ i, i < ops.size → listed.getD i false = true := by
  intro i
  induction i using Nat.strongRecOn with
  | ind i ih =>
    intro hi
    cases hq : listed.getD i false with
    | true => rfl
    | false =>
      exfalso
      have hm : i ∈ Region.ready .any ops listed := by
        rw [mem_ready]
        refine ⟨?_, ops[i], by simp [hi], fun e he hb => ?_⟩
        · rw [Array.getD_eq_getD_getElem?, Array.getElem?_eq_getElem (by omega)] at hq ⊢
          exact hq
        · have := (sound_edge hs (show ops[i]? = some ops[i] by simp [hi])).1 e he hb
          exact ih e.on this (by omega)
      rw [hr] at hm
      cases hm

theorem any_of_inv {P : Program} {ops : Array Oper} {tab : List (List Nat)} {fin : List Tmp} {G : World → Prop} {F : Tmp → Value → World → Prop} {a0 : Act} {Q : Exit → Act → World → Prop} (hs : sound ops = true) (ht : tableOk ops tab = true)
    (hd : ∀ (i : Nat) (o : Oper), ops[i]? = some o → ∀ d, o.dst = some d → d < a0.tmps.size)
    (hops : ∀ (i : Nat) (o : Oper), ops[i]? = some o → asked P ops tab fin G F i o)
    (hend : ∀ a W, G W → a.defers = a0.defers → a.tmps.size = a0.tmps.size → (∀ k, fin.contains k = true → F k (a.tmps.getD k undef) W) → Q .normal a W) :
    ∀ (fuel : Nat) (listed : Array Bool) (a : Act) (W : World), left listed ≤ fuel → Inv ops fin G F a0 listed a W → wpAny P .any ops Q fuel listed a W := by
  have done : ∀ (listed : Array Bool) (a : Act) (W : World), Inv ops fin G F a0 listed a W → Region.ready .any ops listed = [] → Q .normal a W := fun listed a W h hr =>
    hend a W h.grown h.defers h.size fun k hk => h.facts k (fun i o hi _ => all_listed hs h.lsize hr i (Array.getElem?_eq_some_iff.1 hi).1) (.inl hk)
  intro fuel
  induction fuel with
  | zero =>
    intro listed a W hf h
    have hr : Region.ready .any ops listed = [] := by
      cases hq : Region.ready .any ops listed with
      | nil => rfl
      | cons j js =>
        have hj : j ∈ Region.ready .any ops listed := by rw [hq]; simp
        have := left_set (mem_ready.1 hj).1
        omega
    exact ⟨hr, done listed a W h hr⟩
  | succ fuel ih =>
    intro listed a W hf h
    refine ⟨fun hr => done listed a W h hr, fun i hi => ?_⟩
    obtain ⟨hun, o, ho, hall⟩ := mem_ready.1 hi
    have hil : i < ops.size := (Array.getElem?_eq_some_iff.1 ho).1
    have hun' : listed.getD i false = false := by
      rw [Array.getD_eq_getD_getElem?, Array.getElem?_eq_getElem (by rw [h.lsize]; exact hil)] at hun ⊢
      exact hun
    have hsd := sound_edge hs ho
    have hp : ∀ j ∈ preds ops i, listed.getD j false = true := fun j hj => by
      obtain ⟨e, he, hb, rfl⟩ := (mem_preds ho).1 hj
      exact hall e he hb
    have hF : ∀ k, (o.looksAt ops).contains k = true → F k (a.tmps.getD k undef) W := fun k hk => h.facts k (fun j oj hj hdj => by
      obtain ⟨e, he, hb, rfl⟩ := hsd.2 k (by simpa using hk) j oj hj hdj
      exact hall e he hb) (.inr ⟨i, o, ho, hk, hun'⟩)
    obtain ⟨hw, hg⟩ := hops i o ho (fun t => a.tmps.getD t undef) W h.grown hF
    unfold wpOp
    simp only [ho, wanted_of hw, if_true]
    refine .inl (wp_of_gives hg fun v w' ⟨h1, h2, h3⟩ => ih _ _ _ ?_ (inv_step ht h ho hp (hd i o ho) h1 h2 h3))
    have := left_set hun
    omega

/-- **A REGION BY ITS FACTS.** -/
theorem wp_region_facts {P : Program} {ops : Array Oper} {id : Nat} {a : Act} {w : World} {Q : Exit → Act → World → Prop} (tab : List (List Nat)) (fin : List Tmp) (G : World → Prop) (F : Tmp → Value → World → Prop)
    (hm : P.follows .mixedOrders = true) (hs : sound ops = true) (ht : tableOk ops tab = true) (hd : (ops.all fun o => (o.dst.map fun d => decide (d < a.tmps.size)).getD true) = true)
    (hG : G w.drew) (h0 : ∀ k, F k (a.tmps.getD k undef) w.drew ∨ (ops.any fun o => o.dst == some k) = true)
    (hops : ∀ (i : Nat) (o : Oper), ops[i]? = some o → asked P ops tab fin G F i o)
    (hend : ∀ a' W, G W → a'.defers = a.defers → a'.tmps.size = a.tmps.size → (∀ k, fin.contains k = true → F k (a'.tmps.getD k undef) W) → Q .normal a' W) : (Code.region id ops true).wp P Q a w := by
  refine wp_region_any hm (any_of_inv (tab := tab) (fin := fin) (G := G) (F := F) (a0 := a) hs ht ?_ hops hend _ _ _ _ ?_ ?_)
  · intro i o hi d hdst
    have := Array.all_eq_true_iff_forall_mem.1 hd o (Array.mem_of_getElem? hi)
    simpa [hdst] using this
  · unfold left
    refine Nat.le_trans (List.length_filter_le _ _) (by simp)
  · refine ⟨hG, rfl, rfl, by simp, fun i o hi hl => ?_, fun k hk _ => ?_⟩
    · rw [Array.getD_eq_getD_getElem?] at hl
      simp [Array.getElem?_replicate] at hl
      split at hl <;> simp at hl
    · rcases h0 k with h | h
      · exact h
      · obtain ⟨o, ho, hdst⟩ := Array.any_eq_true'.1 h
        obtain ⟨i, hi⟩ := Array.mem_iff_getElem?.1 ho
        have := hk i o hi (by simpa using hdst)
        rw [Array.getD_eq_getD_getElem?] at this
        simp [Array.getElem?_replicate] at this
        split at this <;> simp at this

end Go.Proofs.Ytidapdooiibfnaa.Reg

/- The facts that regions are told by: a value, the bytes of a slice, a row of the call's own. -/
namespace Go.Proofs.Ytidapdooiibfnaa
set_option maxRecDepth 20000
open Go.RowKit Reg

/-- append in a walk, by whatever is known of its run. -/
theorem wpList_append_by {P : Program} {w : World} {ops : Array Oper} {rest : List Oper} {o : Oper} {a : Act} {Q : Exit → Act → World → Prop} (hgd : o.guard = none) (s x : Operand) (t : TypeId)
    (ho : o.op = .call { callee := .builtin .append, args := #[s, x], argTypes := #[t, t] }) (v y : Value) (hs : a.eval s = v) (hx : a.eval x = y) (R : Value → World → Prop)
    (hr : ∃ v' w', (Builtin.append_ #[t, t] o.type #[v, y]).run P w = .ok v' w' ∧ R v' w')
    (h : ∀ v' w', R v' w' → wpList P ops Q rest (a.put o.dst v') w') : wpList P ops Q (o :: rest) a w := by
  obtain ⟨v', w', hrun, hR⟩ := hr
  refine wpList_plain hgd fun K hK => ?_
  unfold Oper.wp
  simp [execOp, ho, resolve, invoke, builtin, hs, hx, hrun, Result.andThen]
  exact hK _ _ (h v' w' hR)

/-- The shape of a row that isn't empty. -/
theorem Row.shape {w : World} {B : Nat} {v : Value} {l : List UInt8} (h : Row w B v l) (hl : l ≠ []) : ∃ g cap, v = .slice (some ⟨g, 0, none⟩) l.length cap ∧ B ≤ g ∧ g < w.heap.size ∧ l.length ≤ cap ∧ cap ≤ maxLen := by
  rcases h.2 with ⟨_, h0⟩ | ⟨g, cap, cur, hv, hB, hg, hn, hm, hs, ht⟩
  · exact absurd (List.eq_nil_of_length_eq_zero h0) hl
  · exact ⟨g, cap, hv, hB, (Array.getElem?_eq_some_iff.1 hg).1, hn, hm⟩

/-- A beginning of a slice. -/
theorem Bys.take {w : World} {a : Option Addr} {len cap : Nat} {l : List UInt8} (h : Bys w (.slice a len cap) l) (k : Nat) (hk : k ≤ l.length) : Bys w (.slice a k cap) (l.take k) := by
  rcases h with ⟨h1, rfl⟩ | ⟨ad, cap', h1, hc⟩
  · simp at h1 hk
    obtain ⟨rfl, rfl, rfl⟩ := h1
    subst hk
    exact .inl ⟨rfl, rfl⟩
  · simp at h1
    obtain ⟨rfl, rfl, rfl⟩ := h1
    have e : (l.take k).length = k := by rw [List.length_take]; omega
    refine .inr ⟨ad, cap, by rw [e], fun i hi => ?_⟩
    rw [e] at hi
    rw [hc i (by omega)]
    simp

theorem byte_bys (w : World) (c : UInt8) : Bys (w.alloc (.cells #[bv c] 5)) (.slice (some ⟨w.heap.size, 0, none⟩) 1 1) [c] :=
  .inr ⟨⟨w.heap.size, 0, none⟩, 1, rfl, fun i hi => by
    obtain rfl : i = 0 := by simp at hi; exact hi
    simp [Addr.add, World.cell?_alloc_at]⟩

inductive Fact
  | is (v : Value)
  | bys (l : List UInt8)
  | row (B : Nat) (l : List UInt8)
  | lit (B : Nat)
  | any
  | sat (p : Value → World → Prop) (h : ∀ v W W', p v W → Below W.heap.size W W' → p v W')

def Fact.holds : Fact → Value → World → Prop
  | .is c, v, _ => v = c
  | .bys l, v, w => Bys w v l
  | .row B l, v, w => Row w B v l
  | .lit B, v, w => ∃ g, v = .slice (some ⟨g, 0, none⟩) 0 0 ∧ B ≤ g ∧ w.heap[g]? = some (.cells #[] 5 (0, 0))
  | .any, _, _ => True
  | .sat p _, v, w => p v w

/-- It speaks of no memory. -/
def Fact.still : Fact → Bool
  | .is _ | .any => true
  | _ => false

theorem Row.below {w w' : World} {B : Nat} {v : Value} {l : List UInt8} (h : Row w B v l) (hb : Below w.heap.size w w') : Row w' B v l := by
  rcases h with ⟨h1, h2⟩
  refine ⟨h1, ?_⟩
  rcases h2 with h2 | ⟨g, cap, cur, hv, hB, hg, r⟩
  · exact .inl h2
  · have hlt : g < w.heap.size := (Array.getElem?_eq_some_iff.1 hg).1
    exact .inr ⟨g, cap, cur, hv, hB, by rw [hb.block g hlt]; exact hg, r⟩

theorem Fact.below {f : Fact} {w w' : World} {v : Value} (h : f.holds v w) (hb : Below w.heap.size w w') : f.holds v w' := by
  cases f with
  | is c => exact h
  | bys l => exact Bys.below h (Nat.le_refl _) hb
  | row B l => exact Row.below h hb
  | lit B =>
    obtain ⟨g, h1, h2, h3⟩ := h
    exact ⟨g, h1, h2, by rw [hb.block g (Array.getElem?_eq_some_iff.1 h3).1]; exact h3⟩
  | any => trivial
  | sat p hp => exact hp _ _ _ h hb

theorem Fact.stays {f : Fact} {w w' : World} {v : Value} (hf : f.still = true) (h : f.holds v w) : f.holds v w' := by
  cases f <;> first | exact h | trivial | cases hf

def factsOf (l : List (Tmp × Fact)) (a : Act) (k : Tmp) : Fact := (l.lookup k).getD (.is (a.tmps.getD k undef))

def opFact (f : Tmp → Fact) : Operand → Fact
  | .tmp k => f k
  | .const v => .is v
  | .global g => .is (.pointer (some ⟨g, 0, none⟩))
  | .func n => .is (.func (.func n) #[] #[])

/-- The guard is known to say yes. -/
def guardOk (ops : Array Oper) (f : Tmp → Fact) (o : Oper) : Prop :=
  match o.guard with
  | none => True
  | some (j, b) => ∃ d, (ops[j]?).bind (·.dst) = some d ∧ f d = .is (.bool b)

theorem guard_none {ops : Array Oper} {f : Tmp → Fact} {o : Oper} (h : o.guard = none) : guardOk ops f o := by
  unfold guardOk; rw [h]; trivial

theorem guard_some {ops : Array Oper} {f : Tmp → Fact} {o : Oper} {j : Nat} {b : Bool} {d : Tmp} (h : o.guard = some (j, b)) (hd : (ops[j]?).bind (·.dst) = some d) (hf : f d = .is (.bool b)) : guardOk ops f o := by
  unfold guardOk; rw [h]; exact ⟨d, hd, hf⟩

/-- An operand's value, where it is known. -/
def opVal (f : Tmp → Fact) (s : Operand) : Value := match opFact f s with
  | .is v => v
  | _ => undef

def isIs : Fact → Bool
  | .is _ => true
  | _ => false

section
variable {P : Program} {ops : Array Oper} {tab : List (List Nat)} {fin : List Tmp} {G : World → Prop} {f : Tmp → Fact} {i : Nat} {o : Oper}

/-- What an operation may lean on. -/
def Told (ops : Array Oper) (f : Tmp → Fact) (o : Oper) (x : Tmp → Value) (W : World) : Prop := ∀ k, (o.looksAt ops).contains k = true → (f k).holds (x k) W

def Asked (P : Program) (ops : Array Oper) (tab : List (List Nat)) (fin : List Tmp) (G : World → Prop) (f : Tmp → Fact) (i : Nat) (o : Oper) : Prop :=
  asked P ops tab fin G (fun k v W => (f k).holds v W) i o

theorem guard_ok {x : Tmp → Value} {W : World} (hg : guardOk ops f o) (hk : Told ops f o x W) : wantedBy ops o x := by
  unfold guardOk at hg
  unfold wantedBy
  cases hgd : o.guard with
  | none => trivial
  | some p =>
    obtain ⟨j, b⟩ := p
    rw [hgd] at hg
    obtain ⟨d, hd, hf⟩ := hg
    refine ⟨d, hd, ?_⟩
    have h := hk d (by simp [Oper.looksAt, hgd, hd])
    rw [hf] at h
    exact h

theorem ask_grow (hG : ∀ W W', G W → Below W.heap.size W W' → G W') (hg : guardOk ops f o)
    (h : ∀ x W, G W → Told ops f o x W → gives P o x W (fun v W' => Below W.heap.size W W' ∧ ∀ k, o.dst = some k → (f k).holds v W')) : Asked P ops tab fin G f i o := by
  intro x W hW hk
  refine ⟨guard_ok hg hk, ?_⟩
  have := h x W hW hk
  unfold gives at *
  generalize (execOp (evalBy x) o).run P W = r at *
  cases r with
  | ok n w' =>
    cases n <;> simp only [givesUpon] at this ⊢
    case value v => exact ⟨hG _ _ hW this.1, fun k u _ _ hu => Fact.below hu this.1, this.2⟩
    case skip => exact ⟨hG _ _ hW this.1, fun k u _ _ hu => Fact.below hu this.1, this.2⟩
    case enter g args => exact this.mono fun e w'' ⟨v, he, h1, h2⟩ => ⟨v, he, hG _ _ hW h1, fun k u _ _ hu => Fact.below hu h1, h2⟩
  | halt x w' => simp only [givesUpon] at this

theorem ask_val (hg : guardOk ops f o) (c : Value) (hd : ∀ k, o.dst = some k → f k = .is c) (h : ∀ x W, G W → Told ops f o x W → (execOp (evalBy x) o).run P W = .ok (.value c) W) : Asked P ops tab fin G f i o := by
  intro x W hW hk
  exact ⟨guard_ok hg hk, gives_value (h x W hW hk) ⟨hW, fun k u _ _ hu => hu, fun k hk => by show (f k).holds _ _; rw [hd k hk]; rfl⟩⟩

/-- An operation that may write what no later one looks at. -/
def stillBut (ops : Array Oper) (tab : List (List Nat)) (fin : List Tmp) (f : Tmp → Fact) (i : Nat) (o : Oper) : Bool :=
  (fin ++ ops.toList.flatMap (·.looksAt ops)).all fun k => o.dst == some k || !live ops tab fin i k || (f k).still

theorem still_but (h : stillBut ops tab fin f i o = true) (k : Tmp) (hne : o.dst ≠ some k) (hl : live ops tab fin i k = true) : (f k).still = true := by
  unfold stillBut at h
  have hm : k ∈ fin ++ ops.toList.flatMap (·.looksAt ops) := by
    unfold live at hl
    rw [Bool.or_eq_true] at hl
    rcases hl with hl | hl
    · exact List.mem_append_left _ (by simpa using hl)
    · obtain ⟨j, hj, h1⟩ := List.any_eq_true.1 hl
      refine List.mem_append_right _ (List.mem_flatMap.2 ?_)
      have hjl : j < ops.size := List.mem_range.1 hj
      refine ⟨ops[j], by simp, ?_⟩
      simp only [Array.getElem?_eq_getElem hjl, Bool.and_eq_true] at h1
      simpa using h1.1.1
  have := List.all_eq_true.1 h k hm
  simpa [hl, hne] using this

theorem ask_write (hg : guardOk ops f o) (hs : stillBut ops tab fin f i o = true)
    (h : ∀ x W, G W → Told ops f o x W → gives P o x W (fun v W' => G W' ∧ ∀ k, o.dst = some k → (f k).holds v W')) : Asked P ops tab fin G f i o := by
  intro x W hW hk
  refine ⟨guard_ok hg hk, ?_⟩
  have := h x W hW hk
  unfold gives at *
  generalize (execOp (evalBy x) o).run P W = r at *
  cases r with
  | ok n w' =>
    cases n <;> simp only [givesUpon] at this ⊢
    case value v => exact ⟨this.1, fun k u hne hl hu => Fact.stays (still_but hs k hne hl) hu, this.2⟩
    case skip => exact ⟨this.1, fun k u hne hl hu => Fact.stays (still_but hs k hne hl) hu, this.2⟩
    case enter g args => exact this.mono fun e w'' ⟨v, he, h1, h2⟩ => ⟨v, he, h1, fun k u hne hl hu => Fact.stays (still_but hs k hne hl) hu, h2⟩
  | halt x w' => simp only [givesUpon] at this

theorem told_op {x : Tmp → Value} {W : World} (hk : Told ops f o x W) (s : Operand) (hs : s ∈ o.op.operands.toList) : (opFact f s).holds (evalBy x s) W := by
  cases s with
  | tmp k => exact hk k (by simp only [Oper.looksAt, List.contains_eq_mem, decide_eq_true_eq]; exact List.mem_append_left _ (List.mem_filterMap.2 ⟨_, hs, rfl⟩))
  | const v => exact rfl
  | global g => exact rfl
  | func n => exact rfl

theorem ask_copy (hg : guardOk ops f o) (s : Operand) (ho : o.op = .move s ∨ o.op = .assign s) (hd : ∀ k, o.dst = some k → f k = opFact f s) : Asked P ops tab fin G f i o := by
  intro x W hW hk
  refine ⟨guard_ok hg hk, ?_⟩
  have hs : (opFact f s).holds (evalBy x s) W := told_op hk s (by rcases ho with ho | ho <;> rw [ho] <;> simp [Op.operands])
  refine gives_value (v := evalBy x s) (w' := W) ?_ ⟨hW, fun k u _ _ hu => hu, fun k hk => by show (f k).holds _ _; rw [hd k hk]; exact hs⟩
  rcases ho with ho | ho <;> simp [execOp, ho]

/-- Every operand is known; the operation leaves the memory alone. -/
theorem ask_exec (hg : guardOk ops f o) (c : Value) (hns : (match o.op with | .select .. => false | _ => true) = true) (hk : (o.op.operands.toList.all fun s => isIs (opFact f s)) = true) (hd : ∀ k, o.dst = some k → f k = .is c)
    (hrun : ∀ W, G W → (execOp (opVal f) o).run P W = .ok (.value c) W) : Asked P ops tab fin G f i o := by
  refine ask_val hg c hd fun x W hW ht => ?_
  have e : execOp (evalBy x) o = execOp (opVal f) o := execOp_congr o (fun cs b h => by rw [h] at hns; cases hns) fun s hs => by
    have h1 := told_op ht s (by simpa using hs)
    have h2 := List.all_eq_true.1 hk s (by simpa using hs)
    unfold opVal
    cases hf : opFact f s with
    | is v => rw [hf] at h1; exact h1
    | _ => rw [hf] at h2; cases h2
  rw [e]
  exact hrun W hW

theorem evalBy_opVal {x : Tmp → Value} {W : World} (hk : Told ops f o x W) (s : Operand) (hs : s ∈ o.op.operands.toList) {v : Value} (h : opFact f s = .is v) : evalBy x s = v := by
  have h1 := told_op hk s hs
  rw [h] at h1
  exact h1

theorem ask_bin (hg : guardOk ops f o) (b : BinOp) (ty tz : TypeId) (s t : Operand) (v1 v2 c : Value) (ho : o.op = .binOp b ty s t tz) (hs : opFact f s = .is v1) (ht : opFact f t = .is v2) (hd : ∀ k, o.dst = some k → f k = .is c)
    (hrun : ∀ W, (do eqGuard b ty s t v1 v2; binOp b ty v1 v2 : Sem Value).run P W = .ok c W) : Asked P ops tab fin G f i o := by
  refine ask_val hg c hd fun x W hW hk => ?_
  have e1 := evalBy_opVal hk s (by rw [ho]; simp [Op.operands]) hs
  have e2 := evalBy_opVal hk t (by rw [ho]; simp [Op.operands]) ht
  simp only [execOp, ho, e1, e2]
  rw [Sem.run_bind, hrun W]
  rfl

theorem ask_len (hg : guardOk ops f o) (s : Operand) (t : TypeId) (a : Option Addr) (n cap : Nat) (ho : o.op = .call { callee := .builtin .len, args := #[s], argTypes := #[t] }) (ht : P.underlying t = some (.slice (P.elem t))) (hs : opFact f s = .is (.slice a n cap))
    (hd : ∀ k, o.dst = some k → f k = .is (.int .i64 n)) : Asked P ops tab fin G f i o := by
  refine ask_val hg _ hd fun x W hW hk => ?_
  have e1 := evalBy_opVal hk s (by rw [ho]; simp [Op.operands, Call.operands]) hs
  have hr := run_len_slice (P := P) W t o.type a n cap ht
  simp [execOp, ho, resolve, invoke, builtin, e1, hr, Result.andThen, goInt]

theorem ask_slice (hg : guardOk ops f o) (ty : TypeId) (s : Operand) (lo hi mx : Option Operand) (v c : Value) (lo' hi' mx' : Option Value) (ho : o.op = .slice ty s lo hi mx) (hs : opFact f s = .is v) (hlo : lo.map (opFact f) = lo'.map .is) (hhi : hi.map (opFact f) = hi'.map .is) (hmx : mx.map (opFact f) = mx'.map .is) (hd : ∀ k, o.dst = some k → f k = .is c)
    (hrun : ∀ W, (Instr.sliceAt ty v lo' hi' mx').run P W = .ok c W) : Asked P ops tab fin G f i o := by
  refine ask_val hg c hd fun x W hW hk => ?_
  have e1 := evalBy_opVal hk s (by rw [ho]; simp [Op.operands]) hs
  have hop : ∀ (y : Option Operand) (y' : Option Value), (∀ q, y = some q → q ∈ o.op.operands.toList) → y.map (opFact f) = y'.map .is → y.map (evalBy x) = y' := by
    intro y y' hq h
    cases y with
    | none => cases y' with
      | none => rfl
      | some _ => cases h
    | some q => cases y' with
      | none => cases h
      | some q' =>
        simp at h
        simp [evalBy_opVal hk q (hq q rfl) h]
  have e2 := hop lo lo' (fun q h => by rw [ho, h]; simp [Op.operands]) hlo
  have e3 := hop hi hi' (fun q h => by rw [ho, h]; simp [Op.operands]) hhi
  have e4 := hop mx mx' (fun q h => by rw [ho, h]; simp [Op.operands]) hmx
  simp only [execOp, ho, e1, e2, e3, e4]
  rw [Sem.run_bind, hrun W]
  rfl

/-- 'c && a', 'c || a' with what c is known to be. -/
theorem ask_pick (hg : guardOk ops f o) (c a b : Operand) (t : Bool) (ho : o.op = .pick c a b) (hc : opFact f c = .is (.bool t)) (hd : ∀ k, o.dst = some k → f k = opFact f (if t then a else b)) : Asked P ops tab fin G f i o := by
  intro x W hW hk
  refine ⟨guard_ok hg hk, ?_⟩
  have h1 : evalBy x c = .bool t := by
    have := told_op hk c (by rw [ho]; simp [Op.operands])
    rw [hc] at this
    exact this
  have hs : (opFact f (if t then a else b)).holds (evalBy x (if t then a else b)) W := told_op hk _ (by rw [ho]; cases t <;> simp [Op.operands])
  refine gives_value (v := evalBy x (if t then a else b)) (w' := W) ?_ ⟨hW, fun k u _ _ hu => hu, fun k hk => by show (f k).holds _ _; rw [hd k hk]; exact hs⟩
  cases t <;> simp [execOp, ho, h1, asBool]

/-- Two texts that are the same. -/
theorem ask_same (hg : guardOk ops f o) (s t : Operand) (X : ByteArray) (ty tz : TypeId) (ho : o.op = .binOp .eql ty s t tz) (hs : opFact f s = .is (.string X)) (ht : opFact f t = .is (.string X)) (hd : ∀ k, o.dst = some k → f k = .is (.bool true)) : Asked P ops tab fin G f i o := by
  refine ask_val hg _ hd fun x W hW hk => ?_
  have h1 : evalBy x s = .string X := by
    have := told_op hk s (by rw [ho]; simp [Op.operands])
    rw [hs] at this
    exact this
  have h2 : evalBy x t = .string X := by
    have := told_op hk t (by rw [ho]; simp [Op.operands])
    rw [ht] at this
    exact this
  simp [execOp, ho, h1, h2, eqGuard, go_sem]

/-- append to what `[]byte{}` made. -/
theorem ask_append_lit (hG : ∀ W W', G W → Below W.heap.size W W' → G W') (hg : guardOk ops f o) (s t : Operand) (B : Nat) (l : List UInt8) (hty : o.type = 25)
    (ho : o.op = .call { callee := .builtin .append, args := #[s, t], argTypes := #[25, 25] }) (hs : opFact f s = .lit B) (ht : ∀ x W, G W → Told ops f o x W → Bys W (evalBy x t) l) (hl : l.length ≤ 140737488355328)
    (hd : ∀ k, o.dst = some k → f k = .row B l ∨ f k = .bys l) : Asked Try.prog ops tab fin G f i o := by
  refine ask_grow hG hg fun x W hW hk => ?_
  have h1 := told_op hk s (by rw [ho]; simp [Op.operands, Call.operands])
  rw [hs] at h1
  obtain ⟨g, e1, hB, hgw⟩ := h1
  obtain ⟨v', w', hr, h2, h3⟩ := append_lit hB hgw (ht x W hW hk) hl
  rw [← hty, ← e1] at hr
  refine gives_value (v := v') (w' := w') ?_ ⟨h3, fun k hk => ?_⟩
  · simp only [hty] at hr
    simp [execOp, ho, resolve, invoke, builtin, hty, hr, Result.andThen]
  · rcases hd k hk with h | h <;> rw [h]
    · exact h2
    · exact h2.bys

/-- 'string(v)', v known, its bytes known where it lies. -/
theorem ask_string_is (hg : guardOk ops f o) (s : Operand) (v : Value) (l : List UInt8) (hs : opFact f s = .is v) (hv : ∀ W, G W → Bys W v l) (ho : o.op = .convert 25 9 s) (hd : ∀ k, o.dst = some k → f k = .is (.string ⟨l.toArray⟩)) :
    Asked Try.prog ops tab fin G f i o := by
  refine ask_val hg _ hd fun x W hW hk => ?_
  have e := evalBy_opVal hk s (by rw [ho]; simp [Op.operands]) hs
  simp only [execOp, ho, e]
  rw [Sem.run_bind, conv_bys (hv W hW)]
  simp [Sem.run_pure, Result.andThen]

theorem range_one : Array.range 1 = #[0] := by apply Array.ext'; simp [List.range_succ]

theorem size_byte (w : World) : (Go.sizeOf 5).run Try.prog w = .ok 1 w := by kernel_rfl

theorem elem_bytes : Try.prog.elem 25 = 5 := by kernel_rfl

/-- 'v[:k]'. -/
theorem slice_to (a : Option Addr) (n c k : Nat) (hk : k ≤ c) (W : World) : (Instr.sliceAt 25 (.slice a n c) none (some (.int .i64 (k : Int))) none).run Try.prog W = .ok (.slice a k c) W := by
  have ht : Try.prog.underlying 25 = some (.slice (Try.prog.elem 25)) := by rw [elem_bytes]; exact Try.underlying25
  rw [run_sliceAt_slice _ _ _ _ _ _ ht, run_slice_h _ _ _ _ _ ht .i64 (k : Int) (by omega) (by omega), elem_bytes, size_byte]
  cases a with
  | none => simp [Result.andThen, sliced]
  | some ad => simp [Result.andThen, sliced, Addr.add]

theorem ask_build_lit (hG : ∀ W W', G W → Below W.heap.size W W' → G W') (hg : guardOk ops f o) (B : Nat) (hB : ∀ W, G W → B ≤ W.heap.size) (ho : o.op = .buildSlice 25 0 #[]) (hd : ∀ k, o.dst = some k → f k = .lit B) : Asked Try.prog ops tab fin G f i o := by
  refine ask_grow hG hg fun x W hW hk => ?_
  have hr : (Instr.buildSlice 25 0 #[]).run Try.prog W = .ok (.slice (some ⟨W.heap.size, 0, none⟩) 0 0) (W.alloc (.cells #[] 5)) := by
    simp [Instr.buildSlice, run_underlying Try.underlying25, Result.andThen, Instr.fill, newRow, Array.range_zero']
  refine gives_value (v := .slice (some ⟨W.heap.size, 0, none⟩) 0 0) (w' := W.alloc (.cells #[] 5)) ?_ ⟨(Below.refl _ _).alloc (Nat.le_refl _) _, fun k hk => by rw [hd k hk]; exact ⟨_, rfl, hB W hW, heap_alloc_new W _⟩⟩
  simp [execOp, ho, hr, Result.andThen]

theorem ask_build_one (hG : ∀ W W', G W → Below W.heap.size W W' → G W') (hg : guardOk ops f o) (s : Operand) (c : UInt8) (ho : o.op = .buildSlice 25 1 #[(0, s)]) (hs : opFact f s = .is (bv c)) (hd : ∀ k, o.dst = some k → f k = .bys [c]) : Asked Try.prog ops tab fin G f i o := by
  refine ask_grow hG hg fun x W hW hk => ?_
  have e := evalBy_opVal hk s (by rw [ho]; simp [Op.operands]) hs
  have hz : (zeroValue 5).run Try.prog W = .ok (.int .u8 0) W := by kernel_rfl
  have hr : (Instr.buildSlice 25 1 #[(0, bv c)]).run Try.prog W = .ok (.slice (some ⟨W.heap.size, 0, none⟩) 1 1) (W.alloc (.cells #[bv c] 5)) := by
    simp [Instr.buildSlice, run_underlying Try.underlying25, Result.andThen, hz, Instr.fill, newRow, bv, Value.cells, range_one]
  refine gives_value (v := .slice (some ⟨W.heap.size, 0, none⟩) 1 1) (w' := W.alloc (.cells #[bv c] 5)) ?_ ⟨(Below.refl _ _).alloc (Nat.le_refl _) _, fun k hk => by rw [hd k hk]; exact byte_bys W c⟩
  simp [execOp, ho, hr, e, Result.andThen]

/-- A call of a Go function, met by its contract. -/
theorem ask_call (hG : ∀ W W', G W → Below W.heap.size W W' → G W') (hg : guardOk ops f o) (n : FuncId) (ss : Array Operand) (ts : Array TypeId) (args : Array Value) (fd : Fact)
    (ho : o.op = .call { callee := .value (.func n), args := ss, argTypes := ts }) (hfn : ((P.funcs[n]?).map fun fn => (fn.name == "runtime.NumGoroutine", fn.body.isNone)) = some (false, false))
    (hk : (ss.toList.all fun s => isIs (opFact f s)) = true) (hargs : ss.toList.map (opVal f) = args.toList) (hd : ∀ k, o.dst = some k → f k = fd)
    (h : ∀ W, G W → Calls P n args W fun e W' => ∃ v, e = .returned v ∧ fd.holds v W' ∧ Below W.heap.size W W') : Asked P ops tab fin G f i o := by
  refine ask_grow hG hg fun x W hW ht => ?_
  have ea : ss.map (evalBy x) = args := by
    have hargs' : ss.map (opVal f) = args := by
      apply Array.toList_inj.1
      rw [Array.toList_map, hargs]
    rw [← hargs']
    refine Array.map_congr_left fun s hs => ?_
    have h1 := told_op ht s (by rw [ho]; simp [Op.operands, Call.operands, hs])
    have h2 := List.all_eq_true.1 hk s (by simpa using hs)
    unfold opVal
    cases hf : opFact f s with
    | is v => rw [hf] at h1; exact h1
    | _ => rw [hf] at h2; cases h2
  refine gives_enter (f := n) (args := args) (w' := W) ?_ ((h W hW).mono fun e W' ⟨v, h1, h2, h3⟩ => ⟨v, h1, h3, fun k hk => by rw [hd k hk]; exact h2⟩)
  obtain ⟨fn, hf, hp⟩ := Option.map_eq_some_iff.1 hfn
  simp only [Prod.mk.injEq] at hp
  have e : execOp (evalBy x) o = callFunc n (#[] ++ ss.map (evalBy x) ++ #[]) := by
    obtain ⟨dst, op, type, pos, after, guard⟩ := o
    simp only at ho
    subst ho
    rfl
  rw [e, ea]
  have h1 : fn.name ≠ "runtime.NumGoroutine" := by simpa using hp.1
  have h2 : fn.body ≠ none := by intro hh; have := hp.2; rw [hh] at this; cases this
  simp [callFunc, hf, h1, h2]

def AskedAll (P : Program) (ops : Array Oper) (tab : List (List Nat)) (fin : List Tmp) (G : World → Prop) (f : Tmp → Fact) : Nat → List Oper → Prop
  | _, [] => True
  | i, o :: r => Asked P ops tab fin G f i o ∧ AskedAll P ops tab fin G f (i + 1) r

theorem asked_of_all : ∀ (l : List Oper) (n : Nat), AskedAll P ops tab fin G f n l → ∀ (i : Nat) (o : Oper), l[i]? = some o → Asked P ops tab fin G f (n + i) o
  | [], _, _, i, o, h => by simp at h
  | _ :: r, n, h, 0, o, hi => by
    simp at hi
    subst hi
    exact h.1
  | _ :: r, n, h, i + 1, o, hi => by
    have := asked_of_all r (n + 1) h.2 i o (by simpa using hi)
    rwa [show n + (i + 1) = n + 1 + i by omega]

end

/-- A region by its facts: those of slots that it writes are listed; the others are as they stand. -/
theorem region_by {P : Program} {ops : Array Oper} {id : Nat} {a : Act} {w : World} {Q : Exit → Act → World → Prop} (l : List (Tmp × Fact)) (fin : List Tmp) (G : World → Prop)
    (hm : P.follows .mixedOrders = true) (hs : sound ops = true) (ht : tableOk ops (table ops) = true) (hd : (ops.all fun o => (o.dst.map fun d => decide (d < a.tmps.size)).getD true) = true)
    (hl : (l.all fun p => ops.any fun o => o.dst == some p.1) = true) (hG : G w.drew)
    (hops : AskedAll P ops (table ops) fin G (factsOf l a) 0 ops.toList)
    (hend : ∀ a' W, G W → a'.defers = a.defers → a'.tmps.size = a.tmps.size → (∀ k, fin.contains k = true → (factsOf l a k).holds (a'.tmps.getD k undef) W) → Q .normal a' W) : (Code.region id ops true).wp P Q a w := by
  refine wp_region_facts (table ops) fin G (fun k v W => (factsOf l a k).holds v W) hm hs ht hd hG (fun k => ?_) (fun i o hi => ?_) hend
  · cases hk : l.lookup k with
    | none => left; simp [factsOf, hk, Fact.holds]
    | some fk =>
      right
      have hmem : (k, fk) ∈ l := by
        clear hl hops hend
        induction l with
        | nil => simp at hk
        | cons p l ih =>
          obtain ⟨p1, p2⟩ := p
          rw [List.lookup_cons] at hk
          by_cases hkp : (k == p1) = true
          · rw [hkp] at hk
            simp at hk hkp
            subst hk hkp
            simp
          · simp only [hkp] at hk
            exact List.mem_cons_of_mem _ (ih hk)
      exact List.all_eq_true.1 hl _ hmem
  · have := asked_of_all ops.toList 0 hops i o (by simpa using hi)
    rwa [Nat.zero_add] at this

/-- An operation that looks at one operand that is known. -/
theorem ask_read {P : Program} {ops : Array Oper} {tab : List (List Nat)} {fin : List Tmp} {K : World → Prop} {f : Tmp → Fact} {i : Nat} {o : Oper} (hg : guardOk ops f o) (s : Operand) (v c : Value) (hs : opFact f s = .is v) (hmem : s ∈ o.op.operands.toList) (hd : ∀ k, o.dst = some k → f k = .is c)
    (h : ∀ (x : Tmp → Value) W, K W → evalBy x s = v → (execOp (evalBy x) o).run P W = .ok (.value c) W) : Asked P ops tab fin K f i o :=
  ask_val hg c hd fun x W hW hk => h x W hW (evalBy_opVal hk s hmem hs)

/-- A frame laid open. -/
theorem act_open (n : Nat) (b : Act) (hs : b.tmps.size = n) (hd : b.defers = []) : ∃ us : Nat → Value, (∀ i, us i = b.tmps.getD i undef) ∧ b = ⟨((List.range n).map us).toArray, []⟩ := by
  refine ⟨fun i => b.tmps.getD i undef, fun _ => rfl, ?_⟩
  obtain ⟨tmps, defers⟩ := b
  simp only at hs hd
  subst hd
  congr 1
  apply Array.ext
  · simp [hs]
  · intro i h1 h2
    simp [Array.getD, h1]

/-- 'v[lo:hi]'. -/
theorem slice_mid (b : Option Addr) (n c lo hi : Nat) (h1 : lo ≤ hi) (h2 : hi ≤ c) (W : World) : (Instr.sliceAt 25 (.slice b n c) (some (.int .i64 (lo : Int))) (some (.int .i64 (hi : Int))) none).run Try.prog W = .ok (sliced b lo hi c 1) W := by
  have ht : Try.prog.underlying 25 = some (.slice (Try.prog.elem 25)) := by rw [elem_bytes]; exact Try.underlying25
  rw [run_sliceAt_slice _ _ _ _ _ _ ht, run_slice_lh _ _ _ _ _ ht .i64 .i64 (lo : Int) (hi : Int) (by omega) (by omega) (by omega), elem_bytes, size_byte]
  simp [Result.andThen]

end Go.Proofs.Ytidapdooiibfnaa

/- The reference's reader: a text. -/
namespace Go.Proofs.Ytidapdooiibfnaa
set_option maxRecDepth 20000
open Go.RowKit BinMath Reg
variable {G : Nat} {a : Option Addr} {cap : Nat}

theorem addr_add_add (ad : Addr) (i j : Nat) : (ad.add i).add j = ad.add (i + j) := by
  by_cases hi : i = 0
  · subst hi; simp [Addr.add]
  · by_cases hj : j = 0
    · subst hj; simp [Addr.add]
    · simp [Addr.add, hi, hj, Nat.add_assoc]

/-- The piece of the bytes. -/
theorem IsRef.piece {w : World} {Q : Nat} {l : List UInt8} {k : Nat} {st : Int} (h : IsRef w Q G a cap l k st) (m : Nat) (hm : k + m ≤ l.length) : Bys w (sliced a k (k + m) cap 1) ((l.drop k).take m) := by
  have hf := h.facts
  have e : ((l.drop k).take m).length = m := by rw [List.length_take, List.length_drop]; omega
  unfold sliced
  rw [show k + m - k = m by omega]
  by_cases hm0 : m = 0
  · subst hm0
    rw [List.take_zero]
    split
    · cases a with
      | none => rename_i hc; rw [show cap - k = 0 by omega]; exact .inl ⟨rfl, rfl⟩
      | some ad => exact .inr ⟨ad, _, rfl, fun i hi => by simp at hi⟩
    · cases a with
      | none =>
        exfalso
        have := h.2.2.2.1.2 rfl
        omega
      | some ad => exact .inr ⟨_, _, rfl, fun i hi => by simp at hi⟩
  · obtain ⟨ad, ha, -, -⟩ := h.2.2.2.2.2 k (by omega)
    subst ha
    rw [if_neg (by omega)]
    refine .inr ⟨ad.add (k * 1), cap - k, by rw [e]; rfl, fun i hi => ?_⟩
    rw [e] at hi
    obtain ⟨ad', ha', -, hc⟩ := h.2.2.2.2.2 (k + i) (by omega)
    cases ha'
    rw [Nat.mul_one, addr_add_add, hc]
    simp

/-- How the reading of a text by the reference ends. -/
def RefText (G Q : Nat) (a : Option Addr) (cap : Nat) (l : List UInt8) (w : World) (t : List UInt8) (c k' : Nat) (e : Ending) (w' : World) : Prop :=
  Only Q w w' ∧ ∃ v, e = .returned (.tuple #[v, .int .i64 (c : Int)]) ∧ Row w' w.heap.size v t ∧ IsRef w' Q G a cap l k' c

theorem textS_open (most : Nat) (l : List UInt8) (k : Nat) : textS l most k 0 = match pText most (l.drop k) with
    | .ok (t, u) => (t, 0, k + u)
    | .error c => ([], c, k) := by
  simp only [textS]
  rcases pText most (l.drop k) with c | ⟨n, u⟩ <;> rfl

theorem wrap64_sum (p n : Nat) (h : p + n ≤ 140737488351232) : wrap64 ((p : Int) + (n : Int)) = (p : Int) + (n : Int) := IntWalk.wrap64_in _ ⟨by omega, by omega⟩

theorem wrap64_small (n : Nat) (h : n ≤ 140737488351232) : wrap64 (n : Int) = (n : Int) := IntWalk.wrap64_in _ ⟨by omega, by omega⟩

set_option maxHeartbeats 400000 in
/-- Where the number isn't to be had. -/
theorem refRaw_none (Q : Nat) (l : List UInt8) (k st c : Nat) (most : Int) (w : World) (h : IsRef w Q G a cap l k st) (hb : numS l k st = (0, c, k)) (hc : c ≠ 0) :
    Calls Try.prog 37 #[.pointer (some ⟨Q, 0, none⟩), .int .i64 most] w (RefText G Q a cap l w [] c k) := by
  obtain ⟨c0, c1, c2, f1, f2⟩ := h.cells
  have hB := refNum_any Q l k st w h
  rw [hb] at hB
  have hs : ((c : Int) != 0) = true := by simp; omega
  have HB := Lib.hid hB
  clear hB h hb hc
  go_enter Try.func37, Try.ntmps37
  go_wp2_with fail
  refine HB.out.mono ?_
  rintro e w1 ⟨ho, rfl, hr⟩
  have HR := Lib.hid hr
  have HO := Lib.hid ho
  clear hr ho
  go_wp2
  exact bodyPost_ret (v := .tuple #[.slice none 0 0, .int .i64 (c : Int)]) (by simp [results, Try.results37, go_sem]) rfl ⟨HO.out, _, rfl, World.ownsRow_nil _ _ _ _, HR.out⟩

set_option maxRecDepth 100000 in
set_option maxHeartbeats 2000000 in
theorem refRaw_some (Q : Nat) (l : List UInt8) (k n u : Nat) (most : Int) (hm : -9223372036854775808 ≤ most ∧ most ≤ 9223372036854775807) (w : World) (h : IsRef w Q G a cap l k 0) (hp : pNum (l.drop k) = .ok (n, u)) :
    Calls Try.prog 37 #[.pointer (some ⟨Q, 0, none⟩), .int .i64 most] w (RefText G Q a cap l w (textS l most.toNat k 0).1 (textS l most.toNat k 0).2.1 (textS l most.toNat k 0).2.2) := by
  obtain ⟨c0, c1, c2, f1, f2⟩ := h.cells
  have hf := h.facts
  have hN := refNum_any Q l k 0 w h
  have en : numS l k 0 = (n, 0, k + u) := by rw [numS_open, hp]
  rw [en] at hN
  obtain ⟨hul, hnb, hu1⟩ := pNum_used hp
  rw [List.length_drop] at hul
  obtain ⟨p, hpk⟩ : ∃ p, p = k + u := ⟨_, rfl⟩
  rw [← hpk] at hN
  have HN := Lib.hid hN
  have HF := Lib.hid hf
  have hz0 : (((0 : Nat) : Int) != 0) = false := rfl
  have hzz : ((0 : Int) != 0) = false := rfl
  by_cases h4 : most.toNat < n
  · have e : textS l most.toNat k 0 = ([], 4, k) := by rw [textS_open, pText, hp]; simp only [if_pos h4]
    rw [e]
    by_cases hneg : most < 0
    · have hge : ¬ (0 ≤ most) := by omega
      have hn0 : (0 : Int) < (n : Int) := by omega
      clear hN en hp hf h c0 c2 f1 f2 h4 hul hu1 hpk
      go_enter Try.func37, Try.ntmps37
      go_wp2_with fail
      refine HN.out.mono ?_
      rintro e w1 ⟨ho1, rfl, hr1⟩
      have HO1 := Lib.hid ho1
      have HR1 := Lib.hid hr1
      have HFl := Lib.hid (refFail_any Q l p k 0 4 w1 hr1 (by have := HF.out; omega))
      clear hr1 ho1
      go_wp2_with fail
      refine HFl.out.mono ?_
      rintro e w2 ⟨rfl, hr, ho⟩
      have HR2 := Lib.hid hr
      have HO2 := Lib.hid ho
      clear hr ho
      go_wp2
      exact bodyPost_ret (v := .tuple #[.slice none 0 0, .int .i64 4]) (by simp [results, Try.results37, go_sem]) rfl ⟨HO1.out.trans HO2.out, _, rfl, World.ownsRow_nil _ _ _ _, HR2.out⟩
    · obtain ⟨M, rfl⟩ : ∃ M : Nat, most = M := ⟨most.toNat, by omega⟩
      have hnn : ¬ ((M : Int) < 0) := by omega
      have hge : (0 : Int) ≤ (M : Int) := by omega
      have hgt : (M : Int) < (n : Int) := by omega
      have hcw : IntKind.u64.wrap (M : Int) = (M : Int) := IntWalk.u64_in _ ⟨by omega, by omega⟩
      clear hN en hp hf h c0 c2 f1 f2 h4 hul hu1 hneg hpk
      go_enter Try.func37, Try.ntmps37
      go_wp2_with fail
      refine HN.out.mono ?_
      rintro e w1 ⟨ho1, rfl, hr1⟩
      have HO1 := Lib.hid ho1
      have HR1 := Lib.hid hr1
      have HFl := Lib.hid (refFail_any Q l p k 0 4 w1 hr1 (by have := HF.out; omega))
      clear hr1 ho1
      go_wp2_with fail
      refine HFl.out.mono ?_
      rintro e w2 ⟨rfl, hr, ho⟩
      have HR2 := Lib.hid hr
      have HO2 := Lib.hid ho
      clear hr ho
      go_wp2
      exact bodyPost_ret (v := .tuple #[.slice none 0 0, .int .i64 4]) (by simp [results, Try.results37, go_sem]) rfl ⟨HO1.out.trans HO2.out, _, rfl, World.ownsRow_nil _ _ _ _, HR2.out⟩
  · by_cases h2 : l.length - p < n
    · have e : textS l most.toNat k 0 = ([], 2, k) := by
        rw [textS_open, pText, hp]
        simp only [if_neg h4]
        rw [if_pos (by rw [List.length_drop]; omega)]
      rw [e]
      by_cases hneg : most < 0
      · exfalso
        omega
      · obtain ⟨M, rfl⟩ : ∃ M : Nat, most = M := ⟨most.toNat, by omega⟩
        have hnn : ¬ ((M : Int) < 0) := by omega
        have hge : (0 : Int) ≤ (M : Int) := by omega
        have hgt : ¬ ((M : Int) < (n : Int)) := by omega
        have hcw : IntKind.u64.wrap (M : Int) = (M : Int) := IntWalk.u64_in _ ⟨by omega, by omega⟩
        clear hN en hp hf h c0 c2 f1 f2 h4 hneg hpk
        go_enter Try.func37, Try.ntmps37
        go_wp2_with fail
        refine HN.out.mono ?_
        rintro e w1 ⟨ho1, rfl, hr1⟩
        have HO1 := Lib.hid ho1
        have HR1 := Lib.hid hr1
        have HFl := Lib.hid (fun q => refFail_any Q l p k 0 2 (w1.drewN q) (hr1.drewN q) (by have := HF.out; omega))
        have hr1f := hr1.facts
        obtain ⟨d0, d1, d2, -, -⟩ := hr1.cells
        obtain ⟨ln, hln⟩ : ∃ ln, ln = l.length := ⟨_, rfl⟩
        rw [← hln] at d0
        have HLn := Lib.hid hln
        obtain ⟨m, hm⟩ : ∃ m : Nat, m = ln - p := ⟨_, rfl⟩
        have hsub : IntKind.i64.wrap ((ln : Int) - (p : Int)) = (m : Int) := by rw [IntWalk.i64_in _ ⟨by omega, by omega⟩]; omega
        have hsub' : wrap64 ((ln : Int) - (p : Int)) = (m : Int) := by rw [IntWalk.wrap64_in _ ⟨by omega, by omega⟩]; omega
        have hsu : IntKind.u64.wrap (m : Int) = (m : Int) := IntWalk.u64_in _ ⟨by omega, by omega⟩
        have hlt : (m : Int) < (n : Int) := by omega
        clear hr1 ho1 h2 hln hm hr1f
        go_wp2
        go_quiet (fail)
        clear hsub hsub' hsu
        go_wp2_with fail
        refine (HFl.out nq).mono ?_
        rintro e w2 ⟨rfl, hr, ho⟩
        have HR2 := Lib.hid hr
        have HO2 := Lib.hid ho
        clear hr ho
        go_wp2
        exact bodyPost_ret (v := .tuple #[.slice none 0 0, .int .i64 2]) (by simp [results, Try.results37, go_sem]) rfl ⟨(HO1.out.drewN nq).trans HO2.out, _, rfl, World.ownsRow_nil _ _ _ _, HR2.out⟩
    · have e : textS l most.toNat k 0 = ((l.drop p).take n, 0, p + n) := by
        rw [textS_open, pText, hp]
        simp only [if_neg h4]
        rw [if_neg (by rw [List.length_drop]; omega)]
        simp only [List.drop_drop, ← Nat.add_assoc, ← hpk]
      rw [e]
      by_cases hneg : most < 0
      · have hge : ¬ (0 ≤ most) := by omega
        have hn0 : ¬ ((0 : Int) < (n : Int)) := by omega
        clear hN en hp hf h c0 c2 f1 f2 h4 hpk
        go_enter Try.func37, Try.ntmps37
        go_wp2_with fail
        refine HN.out.mono ?_
        rintro e w1 ⟨ho1, rfl, hr1⟩
        have HO1 := Lib.hid ho1
        have HR1 := Lib.hid hr1
        have hr1f := hr1.facts
        obtain ⟨d0, d1, d2, -, -⟩ := hr1.cells
        obtain ⟨ln, hln⟩ : ∃ ln, ln = l.length := ⟨_, rfl⟩
        rw [← hln] at d0
        have HLn := Lib.hid hln
        obtain ⟨m, hm⟩ : ∃ m : Nat, m = ln - p := ⟨_, rfl⟩
        have hsub : IntKind.i64.wrap ((ln : Int) - (p : Int)) = (m : Int) := by rw [IntWalk.i64_in _ ⟨by omega, by omega⟩]; omega
        have hsub' : wrap64 ((ln : Int) - (p : Int)) = (m : Int) := by rw [IntWalk.wrap64_in _ ⟨by omega, by omega⟩]; omega
        have hsu : IntKind.u64.wrap (m : Int) = (m : Int) := IntWalk.u64_in _ ⟨by omega, by omega⟩
        have hlt : ¬ ((m : Int) < (n : Int)) := by have := HLn.out; omega
        have hlt2 : decide ((m : Int) < (n : Int)) = false := decide_eq_false hlt
        have HE2 := Lib.hid (wrap64_small n (by have := HF.out; have := HLn.out; omega))
        have HE3 := Lib.hid (wrap64_sum p n (by have := HF.out; have := HLn.out; omega))
        have HFit := Lib.hid (show p + n ≤ l.length by have := HLn.out; omega)
        clear hr1 ho1 h2 hln hm
        go_wp2
        go_quiet (fail)
        clear hsub hsub' hsu
        go_wp2
        obtain ⟨w2, hw2⟩ : ∃ w2, w2 = w1.drewN nq := ⟨_, rfl⟩
        have hr2 : IsRef w2 Q G a cap l p 0 := by rw [hw2]; exact HR1.out.drewN nq
        have ho2 : Only Q w w2 := by rw [hw2]; exact HO1.out.drewN nq
        have hsz2 : w.heap.size ≤ w2.heap.size := ho2.size
        rw [← hw2]
        have HR2 := Lib.hid hr2
        have HO2 := Lib.hid ho2
        have hq0 : ∀ W, Below w2.heap.size w2 W → W.cell? ⟨Q, 0, none⟩ = some (.slice a ln cap) ∧ W.cell? ⟨Q, 1, none⟩ = some (.int .i64 (p : Int)) := fun W hW => by
          have h := (HR2.out.below hW).cells
          rw [HLn.out]
          exact ⟨h.1, h.2.1⟩
        have hpc : ∀ W, Below w2.heap.size w2 W → Bys W (sliced a p (p + n) cap 1) ((l.drop p).take n) := fun W hW => (HR2.out.below hW).piece n HFit.out
        have hG : ∀ W W' : World, Below w2.heap.size w2 W → Below W.heap.size W W' → Below w2.heap.size w2 W' := fun W W' h h' => h.trans (h'.mono h.size)
        have hfit : p + n ≤ l.length := HFit.out
        have hcl : p + n ≤ cap := by have := HR2.out.facts; omega
        have HQ0 := Lib.hid hq0
        have HPc := Lib.hid hpc
        clear hq0 hpc hw2 hr2 ho2 c1 d0 d1 d2
        refine region_by [(55, .lit w2.heap.size), (56, .is (.pointer (some ⟨Q, 0, none⟩))), (57, .is (.pointer (some ⟨Q, 0, none⟩))), (58, .is (.pointer (some ⟨Q, 0, none⟩))), (59, .is (.slice a ln cap)), (60, .is (.pointer (some ⟨Q, 0, none⟩))), (61, .is (.pointer (some ⟨Q, 0, none⟩))), (62, .is (.pointer (some ⟨Q, 1, none⟩))), (63, .is (.int .i64 (p : Int))), (64, .is (.pointer (some ⟨Q, 0, none⟩))), (65, .is (.pointer (some ⟨Q, 0, none⟩))), (66, .is (.pointer (some ⟨Q, 1, none⟩))), (67, .is (.int .i64 (p : Int))), (68, .is (.int .u64 (n : Int))), (69, .is (.int .i64 (n : Int))), (70, .is (.int .i64 ((p : Int) + (n : Int)))), (71, .is (sliced a p (p + n) cap 1)), (72, .row w2.heap.size ((l.drop p).take n)), (9, .row w2.heap.size ((l.drop p).take n))] [0, 7, 9] (fun W => Below w2.heap.size w2 W) (by kernel_rfl) (by kernel_rfl) (by kernel_rfl) (by kernel_rfl) (by kernel_rfl) ((Below.refl _ _).drew) ?_ ?_
        · refine ⟨?a0, ?a1, ?a2, ?a3, ?a4, ?a5, ?a6, ?a7, ?a8, ?a9, ?a10, ?a11, ?a12, ?a13, ?a14, ?a15, ?a16, ?a17, ?a18, trivial⟩
          case a0 => exact ask_build_lit hG (guard_none rfl) w2.heap.size (fun W hW => hW.size) rfl (by intro k hk; cases hk; rfl)
          case a1 => exact ask_copy (guard_none rfl) (.tmp 0) (.inl rfl) (by intro k hk; cases hk; rfl)
          case a2 => exact ask_read (guard_none rfl) (.tmp 56) _ _ rfl (by simp [Op.operands]) (by intro k hk; cases hk; rfl) (fun x W hW hx => by simp only [execOp, hx]; kernel_rfl)
          case a3 => exact ask_read (guard_none rfl) (.tmp 57) _ _ rfl (by simp [Op.operands]) (by intro k hk; cases hk; rfl) (fun x W hW hx => by simp only [execOp, hx]; kernel_rfl)
          case a4 => exact ask_read (guard_none rfl) (.tmp 58) _ _ rfl (by simp [Op.operands]) (by intro k hk; cases hk; rfl) (fun x W hW hx => by simp [execOp, hx, go_sem, (HQ0.out W hW).1])
          case a5 => exact ask_copy (guard_none rfl) (.tmp 0) (.inl rfl) (by intro k hk; cases hk; rfl)
          case a6 => exact ask_read (guard_none rfl) (.tmp 60) _ _ rfl (by simp [Op.operands]) (by intro k hk; cases hk; rfl) (fun x W hW hx => by simp only [execOp, hx]; kernel_rfl)
          case a7 => exact ask_read (guard_none rfl) (.tmp 61) _ _ rfl (by simp [Op.operands]) (by intro k hk; cases hk; rfl) (fun x W hW hx => by simp only [execOp, hx]; kernel_rfl)
          case a8 => exact ask_read (guard_none rfl) (.tmp 62) _ _ rfl (by simp [Op.operands]) (by intro k hk; cases hk; rfl) (fun x W hW hx => by simp [execOp, hx, go_sem, (HQ0.out W hW).2])
          case a9 => exact ask_copy (guard_none rfl) (.tmp 0) (.inl rfl) (by intro k hk; cases hk; rfl)
          case a10 => exact ask_read (guard_none rfl) (.tmp 64) _ _ rfl (by simp [Op.operands]) (by intro k hk; cases hk; rfl) (fun x W hW hx => by simp only [execOp, hx]; kernel_rfl)
          case a11 => exact ask_read (guard_none rfl) (.tmp 65) _ _ rfl (by simp [Op.operands]) (by intro k hk; cases hk; rfl) (fun x W hW hx => by simp only [execOp, hx]; kernel_rfl)
          case a12 => exact ask_read (guard_none rfl) (.tmp 66) _ _ rfl (by simp [Op.operands]) (by intro k hk; cases hk; rfl) (fun x W hW hx => by simp [execOp, hx, go_sem, (HQ0.out W hW).2])
          case a13 => exact ask_copy (guard_none rfl) (.tmp 7) (.inl rfl) (by intro k hk; cases hk; rfl)
          case a14 => exact ask_read (guard_none rfl) (.tmp 68) _ _ rfl (by simp [Op.operands]) (by intro k hk; cases hk; rfl) (fun x W hW hx => by have e : IntKind.i64.wrap (n : Int) = (n : Int) := IntWalk.i64_in _ ⟨by omega, by omega⟩; simp [execOp, hx, go_sem, e])
          case a15 => exact ask_bin (guard_none rfl) _ _ _ _ _ _ _ _ rfl rfl rfl (by intro k hk; cases hk; rfl) (fun W => by simp [eqGuard, go_sem]; exact IntWalk.i64_in _ ⟨by omega, by omega⟩)
          case a16 => exact ask_slice (guard_none rfl) _ _ _ _ _ _ _ (some (.int .i64 (p : Int))) (some (.int .i64 ((p : Int) + (n : Int)))) none rfl rfl rfl rfl rfl (by intro k hk; cases hk; rfl) (fun W => slice_mid a ln cap p (p + n) (by omega) hcl W)
          case a17 => exact ask_append_lit hG (guard_none rfl) _ _ w2.heap.size _ rfl rfl rfl (fun x W hW hk => by have e : x 71 = _ := hk 71 rfl; show Bys W (x 71) _; rw [e]; exact HPc.out W hW) (by rw [List.length_take, List.length_drop]; omega) (by intro k hk; cases hk; exact .inl rfl)
          case a18 => exact ask_copy (guard_none rfl) (.tmp 72) (.inr rfl) (by intro k hk; cases hk; rfl)
        · intro a' W hW hd hs hf
          have h0 : a'.tmps.getD 0 undef = .pointer (some ⟨Q, 0, none⟩) := hf 0 rfl
          have h7 : a'.tmps.getD 7 undef = .int .u64 (n : Int) := hf 7 rfl
          have h9 : Row W w2.heap.size (a'.tmps.getD 9 undef) ((l.drop p).take n) := hf 9 rfl
          obtain ⟨us, hus, ha'⟩ := act_open 83 a' hs hd
          rw [← hus] at h0 h7 h9
          have el : ((List.range 83).map us).toArray = #[us 0, us 1, us 2, us 3, us 4, us 5, us 6, us 7, us 8, us 9, us 10, us 11, us 12, us 13, us 14, us 15, us 16, us 17, us 18, us 19, us 20, us 21, us 22, us 23, us 24, us 25, us 26, us 27, us 28, us 29, us 30, us 31, us 32, us 33, us 34, us 35, us 36, us 37, us 38, us 39, us 40, us 41, us 42, us 43, us 44, us 45, us 46, us 47, us 48, us 49, us 50, us 51, us 52, us 53, us 54, us 55, us 56, us 57, us 58, us 59, us 60, us 61, us 62, us 63, us 64, us 65, us 66, us 67, us 68, us 69, us 70, us 71, us 72, us 73, us 74, us 75, us 76, us 77, us 78, us 79, us 80, us 81, us 82] := by kernel_rfl
          rw [el] at ha'
          subst ha'
          rw [h0, h7]
          obtain ⟨v9, h9e⟩ : ∃ v, us 9 = v := ⟨_, rfl⟩
          rw [h9e] at h9 ⊢
          obtain ⟨b9, c9, rfl⟩ := slice_of_row h9
          have hrw := HR2.out.below hW
          obtain ⟨c0, c1, -, f1, -⟩ := hrw.cells
          have hww : w2.heap.size ≤ W.heap.size := hW.size
          have hfin : IsRef (W.setCell ⟨Q, 1, none⟩ (.int .i64 ((p : Int) + (n : Int)))) Q G a cap l (p + n) 0 := hrw.step hfit
          have hfo : Only Q w (W.setCell ⟨Q, 1, none⟩ (.int .i64 ((p : Int) + (n : Int)))) := (HO2.out.trans (Only.of_below hW)).setR 1 _
          have hfr : Row (W.setCell ⟨Q, 1, none⟩ (.int .i64 ((p : Int) + (n : Int)))) w.heap.size (.slice b9 ((l.drop p).take n).length c9) ((l.drop p).take n) := by
            have hx : Row (W.setCell ⟨Q, 1, none⟩ (.int .i64 ((p : Int) + (n : Int)))) w2.heap.size (.slice b9 ((l.drop p).take n).length c9) ((l.drop p).take n) := row_only h9 (fun g hg => heap_set_other (by have := HR2.out.facts; omega) _)
            exact ⟨hx.1, hx.2.imp id fun ⟨g, cap, cur, hv2, hB, r⟩ => ⟨g, cap, cur, hv2, by omega, r⟩⟩
          obtain ⟨q9, hq9⟩ : ∃ q, q = ((l.drop p).take n).length := ⟨_, rfl⟩
          rw [← hq9] at hfr ⊢
          have HFi := Lib.hid hfin
          have HFo := Lib.hid hfo
          have HFr := Lib.hid hfr
          clear hus h0 h7 h9 h9e el hf hs hd hfin hfo hfr hrw hq9
          go_wp2
          try rw [HE2.out]
          try rw [HE3.out]
          exact bodyPost_ret (v := .tuple #[.slice b9 q9 c9, .int .i64 0]) (by simp [results, Try.results37, go_sem]) rfl ⟨HFo.out, _, rfl, HFr.out, HFi.out⟩
      · obtain ⟨M, rfl⟩ : ∃ M : Nat, most = M := ⟨most.toNat, by omega⟩
        have hnn : ¬ ((M : Int) < 0) := by omega
        have hge : (0 : Int) ≤ (M : Int) := by omega
        have hgt : ¬ ((M : Int) < (n : Int)) := by omega
        have hcw : IntKind.u64.wrap (M : Int) = (M : Int) := IntWalk.u64_in _ ⟨by omega, by omega⟩
        clear hN en hp hf h c0 c2 f1 f2 h4 hneg hpk
        go_enter Try.func37, Try.ntmps37
        go_wp2_with fail
        refine HN.out.mono ?_
        rintro e w1 ⟨ho1, rfl, hr1⟩
        have HO1 := Lib.hid ho1
        have HR1 := Lib.hid hr1
        have hr1f := hr1.facts
        obtain ⟨d0, d1, d2, -, -⟩ := hr1.cells
        obtain ⟨ln, hln⟩ : ∃ ln, ln = l.length := ⟨_, rfl⟩
        rw [← hln] at d0
        have HLn := Lib.hid hln
        obtain ⟨m, hm⟩ : ∃ m : Nat, m = ln - p := ⟨_, rfl⟩
        have hsub : IntKind.i64.wrap ((ln : Int) - (p : Int)) = (m : Int) := by rw [IntWalk.i64_in _ ⟨by omega, by omega⟩]; omega
        have hsub' : wrap64 ((ln : Int) - (p : Int)) = (m : Int) := by rw [IntWalk.wrap64_in _ ⟨by omega, by omega⟩]; omega
        have hsu : IntKind.u64.wrap (m : Int) = (m : Int) := IntWalk.u64_in _ ⟨by omega, by omega⟩
        have hlt : ¬ ((m : Int) < (n : Int)) := by have := HLn.out; omega
        have hlt2 : decide ((m : Int) < (n : Int)) = false := decide_eq_false hlt
        have HE2 := Lib.hid (wrap64_small n (by have := HF.out; have := HLn.out; omega))
        have HE3 := Lib.hid (wrap64_sum p n (by have := HF.out; have := HLn.out; omega))
        have HFit := Lib.hid (show p + n ≤ l.length by have := HLn.out; omega)
        clear hr1 ho1 h2 hln hm
        go_wp2
        go_quiet (fail)
        clear hsub hsub' hsu
        go_wp2
        obtain ⟨w2, hw2⟩ : ∃ w2, w2 = w1.drewN nq := ⟨_, rfl⟩
        have hr2 : IsRef w2 Q G a cap l p 0 := by rw [hw2]; exact HR1.out.drewN nq
        have ho2 : Only Q w w2 := by rw [hw2]; exact HO1.out.drewN nq
        have hsz2 : w.heap.size ≤ w2.heap.size := ho2.size
        rw [← hw2]
        have HR2 := Lib.hid hr2
        have HO2 := Lib.hid ho2
        have hq0 : ∀ W, Below w2.heap.size w2 W → W.cell? ⟨Q, 0, none⟩ = some (.slice a ln cap) ∧ W.cell? ⟨Q, 1, none⟩ = some (.int .i64 (p : Int)) := fun W hW => by
          have h := (HR2.out.below hW).cells
          rw [HLn.out]
          exact ⟨h.1, h.2.1⟩
        have hpc : ∀ W, Below w2.heap.size w2 W → Bys W (sliced a p (p + n) cap 1) ((l.drop p).take n) := fun W hW => (HR2.out.below hW).piece n HFit.out
        have hG : ∀ W W' : World, Below w2.heap.size w2 W → Below W.heap.size W W' → Below w2.heap.size w2 W' := fun W W' h h' => h.trans (h'.mono h.size)
        have hfit : p + n ≤ l.length := HFit.out
        have hcl : p + n ≤ cap := by have := HR2.out.facts; omega
        have HQ0 := Lib.hid hq0
        have HPc := Lib.hid hpc
        clear hq0 hpc hw2 hr2 ho2 c1 d0 d1 d2
        refine region_by [(55, .lit w2.heap.size), (56, .is (.pointer (some ⟨Q, 0, none⟩))), (57, .is (.pointer (some ⟨Q, 0, none⟩))), (58, .is (.pointer (some ⟨Q, 0, none⟩))), (59, .is (.slice a ln cap)), (60, .is (.pointer (some ⟨Q, 0, none⟩))), (61, .is (.pointer (some ⟨Q, 0, none⟩))), (62, .is (.pointer (some ⟨Q, 1, none⟩))), (63, .is (.int .i64 (p : Int))), (64, .is (.pointer (some ⟨Q, 0, none⟩))), (65, .is (.pointer (some ⟨Q, 0, none⟩))), (66, .is (.pointer (some ⟨Q, 1, none⟩))), (67, .is (.int .i64 (p : Int))), (68, .is (.int .u64 (n : Int))), (69, .is (.int .i64 (n : Int))), (70, .is (.int .i64 ((p : Int) + (n : Int)))), (71, .is (sliced a p (p + n) cap 1)), (72, .row w2.heap.size ((l.drop p).take n)), (9, .row w2.heap.size ((l.drop p).take n))] [0, 7, 9] (fun W => Below w2.heap.size w2 W) (by kernel_rfl) (by kernel_rfl) (by kernel_rfl) (by kernel_rfl) (by kernel_rfl) ((Below.refl _ _).drew) ?_ ?_
        · refine ⟨?a0, ?a1, ?a2, ?a3, ?a4, ?a5, ?a6, ?a7, ?a8, ?a9, ?a10, ?a11, ?a12, ?a13, ?a14, ?a15, ?a16, ?a17, ?a18, trivial⟩
          case a0 => exact ask_build_lit hG (guard_none rfl) w2.heap.size (fun W hW => hW.size) rfl (by intro k hk; cases hk; rfl)
          case a1 => exact ask_copy (guard_none rfl) (.tmp 0) (.inl rfl) (by intro k hk; cases hk; rfl)
          case a2 => exact ask_read (guard_none rfl) (.tmp 56) _ _ rfl (by simp [Op.operands]) (by intro k hk; cases hk; rfl) (fun x W hW hx => by simp only [execOp, hx]; kernel_rfl)
          case a3 => exact ask_read (guard_none rfl) (.tmp 57) _ _ rfl (by simp [Op.operands]) (by intro k hk; cases hk; rfl) (fun x W hW hx => by simp only [execOp, hx]; kernel_rfl)
          case a4 => exact ask_read (guard_none rfl) (.tmp 58) _ _ rfl (by simp [Op.operands]) (by intro k hk; cases hk; rfl) (fun x W hW hx => by simp [execOp, hx, go_sem, (HQ0.out W hW).1])
          case a5 => exact ask_copy (guard_none rfl) (.tmp 0) (.inl rfl) (by intro k hk; cases hk; rfl)
          case a6 => exact ask_read (guard_none rfl) (.tmp 60) _ _ rfl (by simp [Op.operands]) (by intro k hk; cases hk; rfl) (fun x W hW hx => by simp only [execOp, hx]; kernel_rfl)
          case a7 => exact ask_read (guard_none rfl) (.tmp 61) _ _ rfl (by simp [Op.operands]) (by intro k hk; cases hk; rfl) (fun x W hW hx => by simp only [execOp, hx]; kernel_rfl)
          case a8 => exact ask_read (guard_none rfl) (.tmp 62) _ _ rfl (by simp [Op.operands]) (by intro k hk; cases hk; rfl) (fun x W hW hx => by simp [execOp, hx, go_sem, (HQ0.out W hW).2])
          case a9 => exact ask_copy (guard_none rfl) (.tmp 0) (.inl rfl) (by intro k hk; cases hk; rfl)
          case a10 => exact ask_read (guard_none rfl) (.tmp 64) _ _ rfl (by simp [Op.operands]) (by intro k hk; cases hk; rfl) (fun x W hW hx => by simp only [execOp, hx]; kernel_rfl)
          case a11 => exact ask_read (guard_none rfl) (.tmp 65) _ _ rfl (by simp [Op.operands]) (by intro k hk; cases hk; rfl) (fun x W hW hx => by simp only [execOp, hx]; kernel_rfl)
          case a12 => exact ask_read (guard_none rfl) (.tmp 66) _ _ rfl (by simp [Op.operands]) (by intro k hk; cases hk; rfl) (fun x W hW hx => by simp [execOp, hx, go_sem, (HQ0.out W hW).2])
          case a13 => exact ask_copy (guard_none rfl) (.tmp 7) (.inl rfl) (by intro k hk; cases hk; rfl)
          case a14 => exact ask_read (guard_none rfl) (.tmp 68) _ _ rfl (by simp [Op.operands]) (by intro k hk; cases hk; rfl) (fun x W hW hx => by have e : IntKind.i64.wrap (n : Int) = (n : Int) := IntWalk.i64_in _ ⟨by omega, by omega⟩; simp [execOp, hx, go_sem, e])
          case a15 => exact ask_bin (guard_none rfl) _ _ _ _ _ _ _ _ rfl rfl rfl (by intro k hk; cases hk; rfl) (fun W => by simp [eqGuard, go_sem]; exact IntWalk.i64_in _ ⟨by omega, by omega⟩)
          case a16 => exact ask_slice (guard_none rfl) _ _ _ _ _ _ _ (some (.int .i64 (p : Int))) (some (.int .i64 ((p : Int) + (n : Int)))) none rfl rfl rfl rfl rfl (by intro k hk; cases hk; rfl) (fun W => slice_mid a ln cap p (p + n) (by omega) hcl W)
          case a17 => exact ask_append_lit hG (guard_none rfl) _ _ w2.heap.size _ rfl rfl rfl (fun x W hW hk => by have e : x 71 = _ := hk 71 rfl; show Bys W (x 71) _; rw [e]; exact HPc.out W hW) (by rw [List.length_take, List.length_drop]; omega) (by intro k hk; cases hk; exact .inl rfl)
          case a18 => exact ask_copy (guard_none rfl) (.tmp 72) (.inr rfl) (by intro k hk; cases hk; rfl)
        · intro a' W hW hd hs hf
          have h0 : a'.tmps.getD 0 undef = .pointer (some ⟨Q, 0, none⟩) := hf 0 rfl
          have h7 : a'.tmps.getD 7 undef = .int .u64 (n : Int) := hf 7 rfl
          have h9 : Row W w2.heap.size (a'.tmps.getD 9 undef) ((l.drop p).take n) := hf 9 rfl
          obtain ⟨us, hus, ha'⟩ := act_open 83 a' hs hd
          rw [← hus] at h0 h7 h9
          have el : ((List.range 83).map us).toArray = #[us 0, us 1, us 2, us 3, us 4, us 5, us 6, us 7, us 8, us 9, us 10, us 11, us 12, us 13, us 14, us 15, us 16, us 17, us 18, us 19, us 20, us 21, us 22, us 23, us 24, us 25, us 26, us 27, us 28, us 29, us 30, us 31, us 32, us 33, us 34, us 35, us 36, us 37, us 38, us 39, us 40, us 41, us 42, us 43, us 44, us 45, us 46, us 47, us 48, us 49, us 50, us 51, us 52, us 53, us 54, us 55, us 56, us 57, us 58, us 59, us 60, us 61, us 62, us 63, us 64, us 65, us 66, us 67, us 68, us 69, us 70, us 71, us 72, us 73, us 74, us 75, us 76, us 77, us 78, us 79, us 80, us 81, us 82] := by kernel_rfl
          rw [el] at ha'
          subst ha'
          rw [h0, h7]
          obtain ⟨v9, h9e⟩ : ∃ v, us 9 = v := ⟨_, rfl⟩
          rw [h9e] at h9 ⊢
          obtain ⟨b9, c9, rfl⟩ := slice_of_row h9
          have hrw := HR2.out.below hW
          obtain ⟨c0, c1, -, f1, -⟩ := hrw.cells
          have hww : w2.heap.size ≤ W.heap.size := hW.size
          have hfin : IsRef (W.setCell ⟨Q, 1, none⟩ (.int .i64 ((p : Int) + (n : Int)))) Q G a cap l (p + n) 0 := hrw.step hfit
          have hfo : Only Q w (W.setCell ⟨Q, 1, none⟩ (.int .i64 ((p : Int) + (n : Int)))) := (HO2.out.trans (Only.of_below hW)).setR 1 _
          have hfr : Row (W.setCell ⟨Q, 1, none⟩ (.int .i64 ((p : Int) + (n : Int)))) w.heap.size (.slice b9 ((l.drop p).take n).length c9) ((l.drop p).take n) := by
            have hx : Row (W.setCell ⟨Q, 1, none⟩ (.int .i64 ((p : Int) + (n : Int)))) w2.heap.size (.slice b9 ((l.drop p).take n).length c9) ((l.drop p).take n) := row_only h9 (fun g hg => heap_set_other (by have := HR2.out.facts; omega) _)
            exact ⟨hx.1, hx.2.imp id fun ⟨g, cap, cur, hv2, hB, r⟩ => ⟨g, cap, cur, hv2, by omega, r⟩⟩
          obtain ⟨q9, hq9⟩ : ∃ q, q = ((l.drop p).take n).length := ⟨_, rfl⟩
          rw [← hq9] at hfr ⊢
          have HFi := Lib.hid hfin
          have HFo := Lib.hid hfo
          have HFr := Lib.hid hfr
          clear hus h0 h7 h9 h9e el hf hs hd hfin hfo hfr hrw hq9
          go_wp2
          try rw [HE2.out]
          try rw [HE3.out]
          exact bodyPost_ret (v := .tuple #[.slice b9 q9 c9, .int .i64 0]) (by simp [results, Try.results37, go_sem]) rfl ⟨HFo.out, _, rfl, HFr.out, HFi.out⟩

theorem refRaw_any (Q : Nat) (l : List UInt8) (k st : Nat) (most : Int) (hm : -9223372036854775808 ≤ most ∧ most ≤ 9223372036854775807) (w : World) (h : IsRef w Q G a cap l k st) :
    Calls Try.prog 37 #[.pointer (some ⟨Q, 0, none⟩), .int .i64 most] w (RefText G Q a cap l w (textS l most.toNat k st).1 (textS l most.toNat k st).2.1 (textS l most.toNat k st).2.2) := by
  by_cases hst : st = 0
  · subst hst
    cases hp : pNum (l.drop k) with
    | error c =>
      have hc := pNum_err hp
      have e : textS l most.toNat k 0 = ([], c, k) := by rw [textS_open, pText, hp]
      rw [e]
      exact refRaw_none Q l k 0 c most w h (by rw [numS_open, hp]) (by omega)
    | ok p =>
      obtain ⟨n, u⟩ := p
      exact refRaw_some Q l k n u most hm w h hp
  · have e : textS l most.toNat k st = ([], st, k) := if_pos hst
    rw [e]
    exact refRaw_none Q l k st st most w h (if_pos hst) hst

end Go.Proofs.Ytidapdooiibfnaa

/- New, told by where its memory lies; loops that count up the bytes of a row. -/
namespace Go.Proofs.Ytidapdooiibfnaa
set_option maxRecDepth 20000
open Go.RowKit BinMath

end Go.Proofs.Ytidapdooiibfnaa

