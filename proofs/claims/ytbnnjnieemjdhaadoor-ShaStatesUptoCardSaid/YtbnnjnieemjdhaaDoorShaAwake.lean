/- The fixed answers that every law of layer 3 begins with. -/
import Derived.Test.YtbnnjnieemjdhaaDoorShaNarrow
import Derived.Lib.SlBytesConst
namespace Go.Proofs.YtbnnjnieemjdhaaDoor
open Go.RowKit ShaMath

def abcL : List UInt8 := [97, 98, 99]
theorem abc0 : (ShaMath.hash abcL).getD 0 0 = 186 := by decide +kernel
theorem abc31 : (ShaMath.hash abcL).getD 31 0 = 173 := by decide +kernel
theorem abc1 : (narrowL (ShaMath.hash abcL) 12).getD 1 0 = 112 := by decide +kernel

/-- The program's tables. -/
def Tabs (w : World) : Prop := Roots w ∧ Starts w
theorem Tabs.below {w w' : World} {B : Nat} (h : Tabs w) (hB : w.heap.size ≤ B) (hb : Below B w w') : Tabs w' := ⟨h.1.below hB hb, h.2.below hB hb⟩

theorem awake_any (w : World) (ht : Tabs w) : Calls Tryd.prog 8 #[] w fun e w' => e = .returned (.bool true) ∧ Below w.heap.size w w' := by
  have HT := Lib.hid ht
  clear ht
  go_enter Tryd.func8, Tryd.ntmps8
  have kc := fun (w : World) (C : Array Value) (n c : Nat) => Lib.run_convert_bytes_const (P := Tryd.prog) w 22 5 C n c Tryd.underlying22 Tryd.underlying5
  go_wp2_with fail
  clear kc
  refine (sum_any abcL _ 3 3 _ ?_ (by decide) (by decide) (HT.out.1.below (Nat.le_refl _) ((Below.refl _ _).alloc (Nat.le_refl _) _)) (HT.out.2.below (Nat.le_refl _) ((Below.refl _ _).alloc (Nat.le_refl _) _))).mono ?_
  · exact .inr ⟨_, _, rfl, fun i hi => by
      rw [addr_add, Nat.zero_add, World.cell?_alloc_mark]
      have : ∀ i : Fin 3, (#[Value.int IntKind.u8 97, Value.int IntKind.u8 98, Value.int IntKind.u8 99] : Array Value)[i.val]? = some (bv abcL[i.val]) := by
        intro i
        match i with
        | 0 | 1 | 2 => rfl
      exact this ⟨i, hi⟩⟩
  rintro e w1 ⟨rfl, hb1⟩
  have hb2 : Below w.heap.size w w1 := ((Below.refl w.heap.size w).alloc (Nat.le_refl _) (.cells #[.int .u8 97, .int .u8 98, .int .u8 99] 5 (3, 4))).trans (hb1.mono (by simp))
  obtain ⟨hl, hhl, hl32, g0, g31⟩ : ∃ hl, hl = ShaMath.hash abcL ∧ hl.length = 32 ∧ hl.getD 0 0 = 186 ∧ hl.getD 31 0 = 173 := ⟨_, rfl, hash_length _, abc0, abc31⟩
  obtain ⟨nl, hnl, nl32, n1⟩ : ∃ nl, nl = narrowL hl 12 ∧ nl.length = 32 ∧ nl.getD 1 0 = 112 := ⟨_, rfl, narrowL_length _ _, by rw [hhl]; exact abc1⟩
  obtain ⟨cs, hcs⟩ : ∃ cs, cs = bs hl := ⟨_, rfl⟩
  have hcl : cs.size = 32 := by rw [hcs, bs_size, hl32]
  have h0 : cs[0]? = some (.int .u8 186) := by rw [hcs, bs_at _ _ (by omega), g0]; rfl
  have h31 : cs[31]? = some (.int .u8 173) := by rw [hcs, bs_at _ _ (by omega), g31]; rfl
  have hone : cs.all (·.oneCell') = true := by rw [hcs]; exact bs_one _
  have hsz : (Tryd.prog.info? 25).map (·.size) = some cs.size := by rw [hcl]; kernel_rfl
  have hna : ∀ W, Calls Tryd.prog 14 #[.agg cs, .int .i64 12] W fun e w' => e = .returned (.agg (bs nl)) ∧ Below W.heap.size W w' := fun W => by rw [hcs, hnl]; exact narrow_any hl 12 W hl32 ⟨by omega, by omega⟩
  have hix : ∀ W, (Instr.index 25 (.agg (bs nl)) (.int .i64 1)).run Tryd.prog W = .ok (.int .u8 112) W := fun W => by
    have := index_bytes (P := Tryd.prog) W 25 5 32 nl 1 Tryd.underlying25 Tryd.underlying5 (by kernel_rfl) (by omega) (by omega)
    rw [n1] at this
    exact this
  obtain ⟨ns, hns⟩ : ∃ ns, ns = bs nl := ⟨_, rfl⟩
  rw [← hhl, ← hcs]
  rw [← hns] at hna hix
  have HSz := Lib.hid hsz
  have HOne := Lib.hid hone
  have HCl := Lib.hid hcl
  have HNa := Lib.hid hna
  have HB2 := Lib.hid hb2
  have H0 := Lib.hid h0
  have H31 := Lib.hid h31
  have hsz1 := hb2.size
  clear hb1 hb2 hcs hl32 hcl hone hsz hna hns h0 h31 hhl hnl nl32 n1 g0 g31
  go_upto_region 2 with (refine wpList_store_row rfl 25 (.tmp 1) (.tmp 4) rfl w1.heap.size cs rfl rfl 25 _ (heap_alloc_new w1 _) HSz.out (by rw [HCl.out]; rfl) HOne.out ?_)
  refine world_cut (fun W => Blk W w1.heap.size 25 cs ∧ Below w.heap.size w W) ?_ ?_
  · exact ⟨Blk.row (heap_alloc_new w1 _) cs, below_setRow (HB2.out.alloc hsz1 _) _ _ hsz1⟩
  rintro W ⟨h1, h2⟩
  have c0 := h1.cell 0
  have c31 := h1.cell 31
  rw [H0.out] at c0
  rw [H31.out] at c31
  have HLd := Lib.hid (h1.loads (P := Tryd.prog) 25 _ Tryd.underlying25 rfl HSz.out)
  have H2 := Lib.hid h2
  have hszW := h2.size
  clear h1 h2
  go_wp2_with (first
    | (refine wpList_load_guarded rfl 25 (.tmp 1) rfl (.pointer (some ⟨w1.heap.size, 0, none⟩)) (.agg cs) rfl HLd.out ?_)
    | ((with_reducible refine (HNa.out _).mono ?_); rintro e w3 ⟨rfl, hb3⟩; (have HB3 := Lib.hid hb3); clear hb3))
  go_ret
  exact ⟨rfl, H2.out.trans (HB3.out.mono H2.out.size)⟩
end Go.Proofs.YtbnnjnieemjdhaaDoor
