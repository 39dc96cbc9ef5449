/- The fixed answers that every law of layer 4 begins with. -/
import Derived.Test.YtlnhjllcgbdalaaDoorMacMark
import Derived.Lib.SlBytesConst
namespace Go.Proofs.YtlnhjllcgbdalaaDoor
open Go.RowKit ShaMath MacMath

def keyB : List UInt8 := [107, 101, 121]
def foxB : List UInt8 := [84, 104, 101, 32, 113, 117, 105, 99, 107, 32, 98, 114, 111, 119, 110, 32, 102, 111, 120, 32, 106, 117, 109, 112, 115, 32, 111, 118, 101, 114, 32, 116, 104, 101, 32, 108, 97, 122, 121, 32, 100, 111, 103]
theorem fox0 : (hmac keyB foxB).getD 0 0 = 247 := by decide +kernel
theorem fox31 : (hmac keyB foxB).getD 31 0 = 216 := by decide +kernel

theorem const_bys (W : World) (xs : Array Value) (l : List UInt8) (n c : Nat) (hn : l.length = n) (m : Nat × Nat) (hx : (l.map bv).toArray = xs) (g : Nat) (hg : g = W.heap.size) : Bys (W.alloc (.cells xs 5 m)) (.slice (some ⟨g, 0, none⟩) n c) l := by
  subst hx hg
  refine .inr ⟨_, c, by rw [hn], fun i hi => ?_⟩
  rw [addr_add, Nat.zero_add, World.cell?_alloc_mark]
  simp [hi]

/-- The conversion of a literal that was laid behind another one. -/
theorem convert_second (w : World) (o : Obj) (C : Array Value) (n c : Nat) : (convert 22 22 (.slice (some ⟨w.heap.size + 1, 0, none⟩) n c)).run Tryd.prog ((w.alloc o).alloc (.cells C 5)) = .ok (.slice (some ⟨w.heap.size + 1, 0, none⟩) n c) ((w.alloc o).alloc (.cells C 5 (C.size, C.size + 1))) := by
  have h := Lib.run_convert_bytes_const (P := Tryd.prog) (w.alloc o) 22 5 C n c Tryd.underlying22 Tryd.underlying5
  rwa [show (w.alloc o).heap.size = w.heap.size + 1 by simp] at h

theorem awake_any (w : World) (ht : Tabs w) : Calls Tryd.prog 7 #[] w fun e w' => e = .returned (.bool true) ∧ Below w.heap.size w w' := by
  have HT := Lib.hid ht
  clear ht
  go_enter Tryd.func7, Tryd.ntmps7
  have kc := fun (w : World) (C : Array Value) (n c : Nat) => Lib.run_convert_bytes_const (P := Tryd.prog) w 22 5 C n c Tryd.underlying22 Tryd.underlying5
  have kd := convert_second
  go_wp2_with fail
  clear kc kd
  have hb1 : ∀ o, Below w.heap.size w (w.alloc o) := fun o => (Below.refl _ _).alloc (Nat.le_refl _) o
  have hb2 : ∀ o o', Below w.heap.size w ((w.alloc o).alloc o') := fun o o' => (hb1 o).alloc (by simp) o'
  have hb3 : ∀ o o', Below (w.alloc o).heap.size (w.alloc o) ((w.alloc o).alloc o') := fun o o' => (Below.refl _ _).alloc (Nat.le_refl _) o'
  refine (mark_any keyB foxB _ _ 3 3 43 43 _ ?_ (by decide) ?_ (by decide) (by decide) (by decide) (HT.out.below (Nat.le_refl _) (hb2 _ _))).mono ?_
  · exact (const_bys w _ keyB 3 3 rfl _ (by kernel_rfl) _ rfl).below (Nat.le_refl _) (hb3 _ _)
  · exact const_bys _ _ foxB 43 43 rfl _ (by kernel_rfl) _ (by simp)
  rintro e w1 ⟨rfl, hb4⟩
  have hB1 : Below w.heap.size w w1 := (hb2 _ _).trans (hb4.mono (by simp; omega))
  obtain ⟨hl, hhl, hl32, g0, g31⟩ : ∃ hl, hl = hmac keyB foxB ∧ hl.length = 32 ∧ hl.getD 0 0 = 247 ∧ hl.getD 31 0 = 216 := ⟨_, rfl, hmac_length _ _, fox0, fox31⟩
  obtain ⟨cs, hcs⟩ : ∃ cs, cs = bs hl := ⟨_, rfl⟩
  have hcl : cs.size = 32 := by rw [hcs, bs_size, hl32]
  have h0 : cs[0]? = some (.int .u8 247) := by rw [hcs, bs_at _ _ (by omega), g0]; rfl
  have h31 : cs[31]? = some (.int .u8 216) := by rw [hcs, bs_at _ _ (by omega), g31]; rfl
  have hone : cs.all (·.oneCell') = true := by rw [hcs]; exact bs_one _
  have hsz : (Tryd.prog.info? 26).map (·.size) = some cs.size := by rw [hcl]; kernel_rfl
  rw [← hhl, ← hcs]
  have HSz := Lib.hid hsz
  have HOne := Lib.hid hone
  have HCl := Lib.hid hcl
  have HB1 := Lib.hid hB1
  have H0 := Lib.hid h0
  have H31 := Lib.hid h31
  have hsz1 := hB1.size
  clear hb1 hb2 hb3 hb4 hB1 hcs hl32 hcl hone hsz h0 h31 hhl g0 g31
  go_upto_region 2 with (refine wpList_store_row rfl 26 (.tmp 1) (.tmp 6) rfl w1.heap.size cs rfl rfl 26 _ (heap_alloc_new w1 _) HSz.out (by rw [HCl.out]; rfl) HOne.out ?_)
  refine world_cut (fun W => Blk W w1.heap.size 26 cs ∧ Below w.heap.size w W) ?_ ?_
  · exact ⟨Blk.row (heap_alloc_new w1 _) cs, below_setRow (HB1.out.alloc hsz1 _) _ _ hsz1⟩
  rintro W ⟨h1, h2⟩
  have c0 := h1.cell 0
  have c31 := h1.cell 31
  rw [H0.out] at c0
  rw [H31.out] at c31
  have H2 := Lib.hid h2
  clear h1 h2
  go_wp2
  go_ret
  exact ⟨rfl, H2.out⟩
end Go.Proofs.YtlnhjllcgbdalaaDoor
