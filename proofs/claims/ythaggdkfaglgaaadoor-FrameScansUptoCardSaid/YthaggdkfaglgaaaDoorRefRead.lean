/- The reference's reader: a byte, the end, what is left. -/
import Derived.Test.YthaggdkfaglgaaaDoorBinRead
namespace Go.Proofs.YthaggdkfaglgaaaDoor
set_option maxRecDepth 20000
open Go.RowKit BinMath
variable {G : Nat} {a : Option Addr} {cap : Nat}

/-- The reference's reader in block Q: it stands at place k of the bytes l, which lie in slice a; stuck by st. -/
def IsRef (w : World) (Q G : Nat) (a : Option Addr) (cap : Nat) (l : List UInt8) (k : Nat) (st : Int) : Prop :=
  w.heap[Q]? = some (.cells #[.slice a l.length cap, .int .i64 (k : Int), .int .i64 st] 48 (0, 0)) ∧ k ≤ l.length ∧ l.length ≤ 140737488351232 ∧ (l.length ≤ cap ∧ (a = none → cap = 0)) ∧ G ≤ Q ∧
    ∀ i (h : i < l.length), ∃ ad, a = some ad ∧ ad.block < G ∧ w.cell? (ad.add i) = some (bv l[i])

theorem IsRef.to {w w' : World} {Q : Nat} {l : List UInt8} {k k' : Nat} {st st' : Int} (h : IsRef w Q G a cap l k st) (hfar : ∀ g, g < G → w'.heap[g]? = w.heap[g]?)
    (hQ : w.heap[Q]? = some (.cells #[.slice a l.length cap, .int .i64 (k : Int), .int .i64 st] 48 (0, 0)) → w'.heap[Q]? = some (.cells #[.slice a l.length cap, .int .i64 (k' : Int), .int .i64 st'] 48 (0, 0))) (hk : k' ≤ l.length) : IsRef w' Q G a cap l k' st' := by
  obtain ⟨h1, h2, h3, h4, h5, h6⟩ := h
  refine ⟨hQ h1, hk, h3, h4, h5, fun i hi => ?_⟩
  obtain ⟨ad, e, hg, hc⟩ := h6 i hi
  exact ⟨ad, e, hg, (World.cell?_of_block (by rw [add_block]; exact hfar _ hg)).trans hc⟩

theorem IsRef.facts {w : World} {Q : Nat} {l : List UInt8} {k : Nat} {st : Int} (h : IsRef w Q G a cap l k st) : Q < w.heap.size ∧ k ≤ l.length ∧ l.length ≤ 140737488351232 ∧ G ≤ Q ∧ l.length ≤ cap :=
  ⟨(Array.getElem?_eq_some_iff.1 h.1).1, h.2.1, h.2.2.1, h.2.2.2.2.1, h.2.2.2.1.1⟩

theorem IsRef.drewN {w : World} {Q : Nat} {l : List UInt8} {k : Nat} {st : Int} (h : IsRef w Q G a cap l k st) (n : Nat) : IsRef (w.drewN n) Q G a cap l k st := h

theorem IsRef.only {w w' : World} {Q : Nat} {l : List UInt8} {k : Nat} {st : Int} {S : Nat → Prop} (h : IsRef w Q G a cap l k st) (ho : OnlyS S w w') (hS : ∀ b, b < G → ¬ S b) (hSQ : ¬ S Q) : IsRef w' Q G a cap l k st := by
  have hf := h.facts
  exact h.to (fun g hg => ho.block g (by omega) (hS g hg)) (fun hQ => by rw [ho.block Q hf.1 hSQ]; exact hQ) hf.2.1

theorem IsRef.below {w w' : World} {Q : Nat} {l : List UInt8} {k : Nat} {st : Int} (h : IsRef w Q G a cap l k st) (hb : Below w.heap.size w w') : IsRef w' Q G a cap l k st :=
  h.only (S := fun _ => False) (OnlyS.of_below hb fun _ hk _ => hk) (fun _ _ => id) id

theorem IsRef.step {w : World} {Q : Nat} {l : List UInt8} {k : Nat} {st : Int} (h : IsRef w Q G a cap l k st) {k' : Nat} (hk : k' ≤ l.length) : IsRef (w.setCell ⟨Q, 1, none⟩ (.int .i64 (k' : Int))) Q G a cap l k' st := by
  have hf := h.facts
  exact h.to (fun g hg => heap_set_other (by omega) _) (fun hQ => by rw [heap_set_same hQ]; rfl) hk

theorem IsRef.fail {w : World} {Q : Nat} {l : List UInt8} {k : Nat} {st : Int} (h : IsRef w Q G a cap l k st) {k' : Nat} {c : Int} (hk : k' ≤ l.length) : IsRef ((w.setCell ⟨Q, 2, none⟩ (.int .i64 c)).setCell ⟨Q, 1, none⟩ (.int .i64 (k' : Int))) Q G a cap l k' c := by
  have hf := h.facts
  exact h.to (fun g hg => (heap_set_other (by omega) _).trans (heap_set_other (by omega) _)) (fun hQ => by rw [heap_set_same (heap_set_same hQ _)]; rfl) hk

theorem IsRef.cells {w : World} {Q : Nat} {l : List UInt8} {k : Nat} {st : Int} (h : IsRef w Q G a cap l k st) : w.cell? ⟨Q, 0, none⟩ = some (.slice a l.length cap) ∧ w.cell? ⟨Q, 1, none⟩ = some (.int .i64 (k : Int)) ∧ w.cell? ⟨Q, 2, none⟩ = some (.int .i64 st) ∧ w.frozen? ⟨Q, 1, none⟩ = false ∧ w.frozen? ⟨Q, 2, none⟩ = false :=
  ⟨by rw [cell_of_heap h.1]; rfl, by rw [cell_of_heap h.1]; rfl, by rw [cell_of_heap h.1]; rfl, free_of_heap h.1, free_of_heap h.1⟩

set_option maxHeartbeats 400000 in
theorem refFail_any (Q : Nat) (l : List UInt8) (k at0 : Nat) (st c : Int) (w : World) (h : IsRef w Q G a cap l k st) (hat : at0 ≤ l.length) :
    Calls Tryd.prog 31 #[.pointer (some ⟨Q, 0, none⟩), .int .i64 c, .int .i64 (at0 : Int)] w fun e w' => e = .returned (.int .i64 c) ∧ IsRef w' Q G a cap l at0 c ∧ Only Q w w' := by
  obtain ⟨c0, c1, c2, f1, f2⟩ := h.cells
  have HI := Lib.hid h
  clear h
  go_enter Tryd.func31, Tryd.ntmps31
  go_wp2
  go_ret
  exact ⟨rfl, HI.out.fail hat, ((Only.refl Q w).setR 2 _).setR 1 _⟩

set_option maxHeartbeats 400000 in
theorem refLeft_any (Q : Nat) (l : List UInt8) (k : Nat) (st : Int) (w : World) (h : IsRef w Q G a cap l k st) :
    Calls Tryd.prog 22 #[.pointer (some ⟨Q, 0, none⟩)] w fun e w' => e = .returned (.int .i64 ((l.length - k : Nat) : Int)) ∧ ∃ n, w' = w.drewN n := by
  obtain ⟨c0, c1, c2, f1, f2⟩ := h.cells
  have hf := h.facts
  clear h
  go_enter Tryd.func22, Tryd.ntmps22
  go_wp2
  go_quiet (fail)
  go_wp2
  go_ret
  refine ⟨congrArg Ending.returned (congrArg (Value.int IntKind.i64) ?_), _, rfl⟩
  omega

/-- How a call of the reference's reader ends. -/
def RefAnswers (G Q : Nat) (a : Option Addr) (cap : Nat) (l : List UInt8) (w : World) (v : Value) (c k' : Nat) (e : Ending) (w' : World) : Prop :=
  Only Q w w' ∧ e = .returned (.tuple #[v, .int .i64 (c : Int)]) ∧ IsRef w' Q G a cap l k' c

set_option maxHeartbeats 400000 in
theorem refByte_any (Q : Nat) (l : List UInt8) (k st : Nat) (w : World) (h : IsRef w Q G a cap l k st) :
    Calls Tryd.prog 40 #[.pointer (some ⟨Q, 0, none⟩)] w (RefAnswers G Q a cap l w (.int .u8 ((byteS l k st).1 : Int)) (byteS l k st).2.1 (byteS l k st).2.2) := by
  obtain ⟨c0, c1, c2, f1, f2⟩ := h.cells
  have hf := h.facts
  have HI := Lib.hid h
  by_cases hst : st = 0
  · subst hst
    have hs : (((0 : Nat) : Int) != 0) = false := rfl
    by_cases hlt : k < l.length
    · obtain ⟨ad, ha, hblk, hc⟩ := h.2.2.2.2.2 k hlt
      have hq : byteS l k 0 = (l[k].toNat, 0, k + 1) := by simp only [byteS, List.drop_eq_getElem_cons hlt]; rfl
      rw [hq]
      obtain ⟨y, hy⟩ : ∃ y, y = l[k].toNat := ⟨_, rfl⟩
      unfold bv at hc
      rw [← hy] at hc ⊢
      have hki : (k : Int) < (l.length : Int) := by omega
      have hki2 : ¬ ((l.length : Int) ≤ (k : Int)) := by omega
      obtain ⟨n, hn⟩ : ∃ n, n = l.length := ⟨_, rfl⟩
      have hb : ¬ ad.block = Q := by omega
      rw [← hn] at c0 hki hki2
      have HLn := Lib.hid hn
      subst ha
      have hnl : n ≤ 140737488351232 := by omega
      have hc' : ∀ q, ((w.drewN q).setCell ⟨Q, 1, none⟩ (.int .i64 ((k : Int) + 1))).cell? (ad.add k) = some (.int .u8 (y : Int)) := fun q => by
        rw [← hc]
        exact World.cell?_of_block (by rw [add_block]; exact heap_set_other hb _)
      have hst1 : IsRef (w.setCell ⟨Q, 1, none⟩ (.int .i64 ((k + 1 : Nat) : Int))) Q G (some ad) cap l (k + 1) 0 := h.step (by omega)
      have HSt := Lib.hid hst1
      clear hst1
      have HF := Lib.hid hf
      have HC := Lib.hid hc'
      clear h hq hy hn hf hc hc'
      go_enter Tryd.func40, Tryd.ntmps40
      go_wp2
      go_quiet (fail)
      go_wp2
      have hv1 : IsRef ((w.drewN nq).setCell ⟨Q, 1, none⟩ (.int .i64 ((k : Int) + 1))) Q G (some ad) cap l (k + 1) 0 := HSt.out.drewN nq
      have ho1 : Only Q w ((w.drewN nq).setCell ⟨Q, 1, none⟩ (.int .i64 ((k : Int) + 1))) := ((Only.refl Q w).drewN nq).setR 1 _
      obtain ⟨v, hv⟩ : ∃ v, v = (w.drewN nq).setCell ⟨Q, 1, none⟩ (.int .i64 ((k : Int) + 1)) := ⟨_, rfl⟩
      have hcv := HC.out nq
      rw [← hv] at hcv hv1 ho1 ⊢
      obtain ⟨d0, d1, -⟩ := hv1.cells
      have hw1 : IntKind.i64.wrap ((k : Int) + 1 - 1) = (k : Int) := by rw [show (k : Int) + 1 - 1 = k by omega]; exact IntWalk.i64_in _ ⟨by omega, by omega⟩
      have d1' : v.cell? ⟨Q, 1, none⟩ = some (.int .i64 ((k : Int) + 1)) := d1
      rw [← HLn.out] at d0
      have HV1 := Lib.hid hv1
      have HO1 := Lib.hid ho1
      clear hv c0 c1 c2 f1 f2 d1 hv1 ho1
      go_quiet (fail)
      clear hw1
      go_wp2
      exact bodyPost_ret (v := .tuple #[.int .u8 (y : Int), .int .i64 0]) (by simp [results, Tryd.results40, go_sem]) rfl ⟨HO1.out.drewN _, rfl, HV1.out.drewN _⟩
    · have hq : byteS l k 0 = (0, 2, k) := by simp only [byteS, List.drop_eq_nil_of_le (Nat.le_of_not_lt hlt)]; rfl
      rw [hq]
      have hF := fun n => refFail_any Q l k k 0 2 (w.drewN n) (HI.out.drewN n) hf.2.1
      have hki2 : ((l.length : Int) ≤ (k : Int)) := by omega
      obtain ⟨n, hn⟩ : ∃ n, n = l.length := ⟨_, rfl⟩
      rw [← hn] at c0 hki2
      have HF := Lib.hid hF
      clear h hq hn hf hF
      go_enter Tryd.func40, Tryd.ntmps40
      go_wp2
      go_quiet (fail)
      go_wp2_with fail
      refine (HF.out nq).mono ?_
      rintro e w1 ⟨rfl, hr, ho⟩
      have HR := Lib.hid hr
      have HO := Lib.hid ho
      clear hr ho
      go_wp2
      exact bodyPost_ret (v := .tuple #[.int .u8 0, .int .i64 2]) (by simp [results, Tryd.results40, go_sem]) rfl ⟨((Only.refl Q w).drewN nq).trans HO.out, rfl, HR.out⟩
  · have hq : byteS l k st = (0, st, k) := if_pos hst
    rw [hq]
    have hs : ((st : Int) != 0) = true := by simp; omega
    clear h hq hf hst
    go_enter Tryd.func40, Tryd.ntmps40
    go_wp2
    go_quiet (fail)
    go_wp2
    exact bodyPost_ret (v := .tuple #[.int .u8 0, .int .i64 (st : Int)]) (by simp [results, Tryd.results40, go_sem]) rfl ⟨(Only.refl Q w).drewN _, rfl, HI.out.drewN _⟩

end Go.Proofs.YthaggdkfaglgaaaDoor
