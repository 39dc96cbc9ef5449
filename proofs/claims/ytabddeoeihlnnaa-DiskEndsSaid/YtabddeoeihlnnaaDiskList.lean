/- List: the files' names, in their order. -/
import Derived.Test.YtabddeoeihlnnaaDiskIter
namespace Go.Proofs.Ytabddeoeihlnnaa
open Go.RowKit Go.Maps Go.Sort Go.Shelf DiskMath

theorem before_lt : ∀ (x y : List UInt8), bytesBefore x y = decide (x < y)
  | [], [] => by simp [bytesBefore]
  | _ :: _, [] => by simp [bytesBefore]
  | [], _ :: _ => by simp [bytesBefore]
  | a :: x, b :: y => by
    rw [bytesBefore, before_lt x y]
    simp only [List.cons_lt_cons_iff]
    by_cases h1 : a < b <;> by_cases h2 : a = b <;> by_cases h3 : x < y <;> simp [h1, h2, h3]

theorem enc_nm (x : List UInt8) : Go.Proofs.encStr x = nm x := rfl

theorem keys_enc (F : Gf) : strKeys (encD F) = F.map (·.1) := by
  unfold encD strKeys
  simp [strOf]

theorem names_sorted {F : Gf} (h : Rise F) {ss : List (List UInt8)} (hp : ss.Perm (strKeys (encD F))) : ss.mergeSort (fun x y => decide (x ≤ y)) = F.map (·.1) := by
  rw [keys_enc] at hp
  have e := mergeSort_of_perm hp
  show ss.mergeSort leB = _
  rw [e]
  refine List.mergeSort_of_pairwise ?_
  rw [List.pairwise_map]
  refine h.imp fun {a b} hab => ?_
  rw [before_lt] at hab
  simp only [decide_eq_true_eq] at hab
  simp only [leB, decide_eq_true_eq]
  exact List.le_of_lt hab

/-- A list of names. -/
def Nms (w : World) (B : Nat) (v : Value) (l : List Nm) : Prop := w.ownsRow B 9 1 v l.length (l.map nm)

set_option maxHeartbeats 1000000 in
theorem list_any {w : World} {T : Nat → Prop} {d c : Nat} {s : St} (h : IsDisk w T d c s) :
    Calls Try.prog 27 #[dp d] w fun e w' => ∃ v, e = .returned v ∧ Nms w' w.heap.size v (s.now.map (·.1)) ∧ Below w.heap.size w w' := by
  obtain ⟨m1, m2, F1, F2, ws, G, hd, ht⟩ := h.ex
  have c3 : w.cell? ⟨d, 3, none⟩ = some (.map (some m1)) := by rw [hd.cells]; rfl
  have c30 : w.cell? ((⟨d, 3, none⟩ : Addr).add 0) = some (.map (some m1)) := c3
  have hown := hd.k1.map
  have hlen : F1.length ≤ 2000 := by
    have h1 := hd.ok.fewN
    rw [← hd.p1, pr_length] at h1
    exact Nat.le_trans h1 hd.small
  have hmax : Maps.size (encD F1) ≤ maxLen := by rw [encD_size]; unfold maxLen; omega
  have hbytes : Maps.size (encD F1) * 16 ≤ 140737488355328 := by rw [encD_size]; omega
  have hrise : Rise F1 := hd.k1.rise
  have hnow : s.now.map (·.1) = F1.map (·.1) := by rw [← hd.p1]; simp [pr]
  rw [hnow]
  have HW := Lib.hid hown
  have HR := Lib.hid hrise
  clear hd ht hlen hnow h hown hrise
  refine (callsIn_wide (n := 6)).1 ?_
  have hfK : Fence.wide.fn 48 := trivial
  have hfS : Fence.wide.fn 47 := trivial
  refine callsIn_of_wp Try.func27 rfl trivial ?_ rfl
  simp only [Try.ntmps27, List.size_toArray, List.length_cons, List.length_nil, Nat.reduceAdd, Nat.reduceSub, Array.replicate_succ, Array.replicate_zero, List.push_toArray, List.append_toArray, List.nil_append, List.cons_append]
  gi_wp2_with (first
    | (gi_at_call 48; refine (maps_keys _ _).mono ?_; rintro e w' ⟨rfl, rfl⟩)
    | (gi_at_call 47; refine (sorted_keys m1 _ (encD F1) tokR w HW.out hmax hbytes).mono ?_; rintro e w' ⟨v, ss, rfl, hS, hrow, hnil, hb⟩))
  rw [names_sorted HR.out hS] at hrow
  have hss : ss.length = (F1.map (·.1)).length := by rw [hS.length_eq, keys_enc]
  have HRow := Lib.hid hrow
  have HB := Lib.hid hb
  clear hrow hb hS hnil
  go_ret
  refine ⟨v, rfl, ?_, ((Below.refl _ w).alloc (Nat.le_refl _) _).trans (HB.out.mono (by simp))⟩
  unfold Nms
  rw [← hss]
  exact ownsRow_base_a HRow.out (by simp)
end Go.Proofs.Ytabddeoeihlnnaa
