/- The rows sorted. -/
import Derived.Test.YtoabhnbifbdknaaGaugeAhead
import Derived.Test.YtoabhnbifbdknaaGaugeLay
namespace Go.Proofs.Ytoabhnbifbdknaa
open Go.RowKit EdgeMath

theorem ord_neg (a b : Int) : (ord a b < 0 ↔ a < b) ∧ (ord a b = 0 ↔ a = b) := by
  unfold ord
  split
  · omega
  · split <;> omega

/-- x stands ahead of y. -/
def LtR (x y : Nat × Nat × Nat) : Prop := rk (b64 x.2.1) < rk (b64 y.2.1) ∨ rk (b64 x.2.1) = rk (b64 y.2.1) ∧ (rk (b64 x.2.2) < rk (b64 y.2.2) ∨ rk (b64 x.2.2) = rk (b64 y.2.2) ∧ x.1 < y.1)

theorem lt_cfR (x y : Nat × Nat × Nat) : ltOf cfR x y = true ↔ LtR x y := by
  unfold ltOf cfR LtR orL
  rw [decide_eq_true_eq]
  obtain ⟨a1, a2⟩ := ord_neg (rk (b64 x.2.1)) (rk (b64 y.2.1))
  obtain ⟨b1, b2⟩ := ord_neg (rk (b64 x.2.2)) (rk (b64 y.2.2))
  obtain ⟨c1, c2⟩ := ord_neg (x.1 : Int) (y.1 : Int)
  split
  · omega
  · split <;> omega

theorem lt_cfR_false (x y : Nat × Nat × Nat) : ltOf cfR x y = false ↔ ¬ LtR x y := by
  rw [← lt_cfR, Bool.not_eq_true]

theorem swoR : Go.Sort.SWO (ltOf cfR) where
  irrefl x := by rw [lt_cfR_false]; unfold LtR; omega
  trans x y z h1 h2 := by rw [lt_cfR] at *; unfold LtR at *; omega
  ntrans x y z h1 h2 := by rw [lt_cfR_false] at *; unfold LtR at *; omega

theorem grown_sort (w : World) (blk n : Nat) (d' : Array (Nat × Nat × Nat)) (os : Array Obj) : w.grownBy (sortWorldK encR 3 w blk 0 n d' os) (some blk) := by
  refine ⟨rfl, rfl, rfl, size_sortWorldK_c encR 3 w blk 0 n d' os, fun k hk hne => ?_⟩
  unfold sortWorldK
  rw [Go.Sort.heap_grow_old _ _ (by simp [Go.Sort.putRowK, Go.Sort.putRow, Go.Sort.mapBlock]; exact hk)]
  unfold Go.Sort.putRowK Go.Sort.putRow Go.Sort.mapBlock
  have : blk ≠ k := fun e => hne (by rw [e])
  show ((Go.Sort.ahead w n).heap.modify blk _)[k]? = _
  rw [Array.getElem?_modify, if_neg this]
  rfl

theorem sort_any (d : Array (Nat × Nat × Nat)) (blk cap : Nat) (w : World) (hH : Go.Sort.HoldsK encR 3 w blk 0 d) (hblk : blk < w.heap.size) (hsz : d.size < 4611686018427387904) :
    Calls Try.prog 33 #[.slice (some ⟨blk, 0, none⟩) d.size cap, .func (.func 34) #[] #[]] w fun e w' =>
      e = .returned (.tuple #[]) ∧ ∃ d' : Array (Nat × Nat × Nat), Go.Sort.PermIn 0 d.size d d' ∧ Go.Sort.SortedIn (ltOf cfR) 0 d.size d' ∧ Go.Sort.HoldsK encR 3 w' blk 0 d' ∧ w.grownBy w' (some blk) := by
  have eg : ∀ args w, (callFunc 34 args).run Try.prog w = .ok (.enter 34 args) w := enters_of Try.func34 (by kernel_rfl) rfl
  have hcmp : CmpLays Try.prog 34 #[] encR 3 cfR blk 0 d.size w := fun _ _ _ _ x y => ahead_any x y _
  have hcon := AnyQ.slices_SortFunc Go.Proofs.Try.sortRow 3 Try.isAgg63 Try.sizeOf63 encR (fun _ => rfl) (fun x v hv => by simp [encR] at hv; rcases hv with rfl | rfl | rfl <;> rfl) cfR swoR 34 #[] blk 0 cap d w eg hcmp hH hblk hsz
  change Calls Try.prog 33 _ _ _ at hcon
  refine hcon.mono ?_
  rintro e w' ⟨rfl, d', n, os, hp, hs, rfl⟩
  exact ⟨rfl, d', hp, hs, holdsK_sortWorldK encR 3 w blk 0 n d d' os hblk hH hp.1, grown_sort w blk n d' os⟩

end Go.Proofs.Ytoabhnbifbdknaa
