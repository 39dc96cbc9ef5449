/- The reference's Get. -/
import Derived.Test.YtboongdoggggoaaCmdRefRead
namespace Go.Proofs.Ytboongdoggggoaa
set_option maxRecDepth 20000
open Go.RowKit BinMath CmdMath

/-- A reader of the reference's that was just laid. -/
theorem ref_new {w : World} {v : Option Addr} {len c Q : Nat} {l : List UInt8} {W : World} (hx : Bys w (.slice v len c) l) (hl : l.length ≤ 140737488351232) (hlc : len ≤ c) (hQ : w.heap.size ≤ Q) (hW : Below w.heap.size w W) (hb : Blk W Q 30 #[.slice v len c, .int .i64 0, .int .i64 0]) :
    RAt W Q w.heap.size v c l l := by
  have hlen := (bys_cells hx).1
  subst hlen
  refine ⟨0, ⟨hb, Nat.zero_le _, hl, ⟨hlc, ?_⟩, hQ, ?_⟩, rfl⟩
  · rcases hx with ⟨h, _⟩ | ⟨ad, cap, h, _⟩
    · exact fun _ => (Value.slice.inj h).2.2
    · intro e; rw [(Value.slice.inj h).1] at e; cases e
  · intro i hi
    rcases hx with ⟨h, rfl⟩ | ⟨ad, cap, h, hc⟩
    · simp at hi
    · obtain rfl := (Value.slice.inj h).1
      have hlt := World.block_lt_of_cell? w _ (hc i hi)
      refine ⟨ad, rfl, by rwa [add_block] at hlt, ?_⟩
      rw [hW.cell hlt]
      exact hc i hi

theorem Mine.below {w w' : World} {B : Nat} {e : Ent} {a b : Option Addr} {ca cb : Nat} (h : Mine w B e a ca b cb) (hb : Below w.heap.size w w') : Mine w' B e a ca b cb :=
  ⟨h.ok, ownsRow_keep h.d hb, h.m.keep hb, h.dl, h.ml⟩

theorem Mine.wrote {w w' : World} {B g : Nat} {e : Ent} {a b : Option Addr} {ca cb : Nat} {cs : Array Value} (h : Mine w B e a ca b cb) (hb : Blk w g 87 cs) (ho : OnlyS (fun b => b = g) w w') : Mine w' B e a ca b cb :=
  ⟨h.ok, row_wrote h.d hb ho, nrow_wrote h.m hb ho, h.dl, h.ml⟩

set_option maxHeartbeats 4000000 in
theorem refget_any (v : Option Addr) (len c : Nat) (l : List UInt8) (w : World) (hx : Bys w (.slice v len c) l) (hl : l.length ≤ 140737488351232) (hlc : len ≤ c) :
    Calls Try.prog 46 #[.slice v len c] w (GetEnd l w) := by
  have b1 : Below w.heap.size w ((w.alloc (.cells zeroC 87)).alloc (.cells #[.slice v len c, .int .i64 0, .int .i64 0] 30)) := ((Below.refl _ _).alloc (Nat.le_refl _) _).alloc (by simp) _
  have hA := ref_new (Q := w.heap.size + 1) hx hl hlc (by omega) b1 (by have := Blk.new (w.alloc (.cells zeroC 87)) 30 #[.slice v len c, .int .i64 0, .int .i64 0]; simpa using this)
  have hR := refread_any hA
  have hs1 : ((w.alloc (.cells zeroC 87)).alloc (.cells #[.slice v len c, .int .i64 0, .int .i64 0] 30)).heap.size = w.heap.size + 2 := by simp
  have E2 := Lib.hid (show Blk ((w.alloc (.cells zeroC 87)).alloc (.cells #[.slice v len c, .int .i64 0, .int .i64 0] 30)) w.heap.size 87 zeroC from (Blk.new w _ _).alloc _)
  have HR := Lib.hid hR
  have HB1 := Lib.hid b1
  have HS1 := Lib.hid hs1
  have hz0 : (((0 : Nat) : Int) != 0) = false := rfl
  clear hx hl hlc b1 hA hR hs1
  go_enter Try.func46, Try.ntmps46
  go_wp2_with fail
  refine HR.out.mono ?_
  rintro e w2 ⟨ho, hcase⟩
  have HB2 := Lib.hid (HB1.out.trans (ho.below (by omega) (by rw [HS1.out]; omega)))
  have HE2 := Lib.hid (E2.out.onlyR ho (by omega))
  have hsz : w.heap.size + 2 ≤ w2.heap.size := by have := ho.size; rw [HS1.out] at this; exact this
  have hs1' := HS1.out
  clear ho HR
  cases hg : gEnt l with
  | error x =>
    rw [hg] at hcase
    obtain rfl := hcase
    have hx := gEnt_err hg
    have hxz : ((x : Int) != 0) = true := by simp; omega
    have hxe : ((x : Int) == 0) = false := beq_false_of_ne (by omega)
    have HG := Lib.hid (show getR l = (Ent.zero, x) by unfold getR; rw [hg])
    clear hg hx hs1'
    go_wp2_with (first | (refine wpList_store_all rfl 87 (.tmp 5) (.tmp 13) rfl w2.heap.size zeroC rfl rfl 87 zeroC (Blk.new w2 _ _) (by kernel_rfl) rfl (by simp [zeroC, Value.oneCell']) ?_; intro w3 hb hos; (have HB3 := Lib.hid (below_two (HB2.out.alloc (by omega) (.cells zeroC 87)) hos (fun k hk e => by omega) (by rw [World.size_alloc]; omega))); (have HE3 := Lib.hid ((HE2.out.alloc (.cells zeroC 87)).onlyS hos (by omega))); (have hs3 : w.heap.size ≤ w3.heap.size := by have := hos.size; rw [World.size_alloc] at this; omega); clear hb hos) | (refine wpList_store_all rfl 87 (.tmp 2) (.tmp 21) rfl w.heap.size #[.int .u64 0, .int .i64 0, .int .u64 0, .int .u64 0, .slice none 0 0, .slice none 0 0] rfl rfl 87 zeroC HE3.out (by kernel_rfl) rfl (by simp [Value.oneCell']) ?_; intro w4 hb hos; (have HZ := Lib.hid hb); (have HB4 := Lib.hid (below_two HB3.out hos (fun k hk e => by omega) hs3)); clear hb hos))
    exact bodyPost_ret (v := .tuple #[.agg zeroC, .int .i64 (x : Int)]) (ret_entry rfl _ _ w.heap.size zeroC _ rfl rfl rfl HZ.out) rfl (getEnd_err HG.out HB4.out)
  | ok p =>
    obtain ⟨x, q⟩ := p
    rw [hg] at hcase
    obtain ⟨a', ca', b', cb', rfl, hm, hat⟩ := hcase
    rw [hs1'] at hm
    have HM := Lib.hid hm
    have HAt := Lib.hid hat
    have HGe := Lib.hid hg
    have hAl := hat.lt
    clear hg hm hat hs1'
    by_cases hq : q = []
    · have HG := Lib.hid (show getR l = (x, 0) by unfold getR; rw [HGe.out]; simp only; rw [if_pos hq])
      have HQ := Lib.hid hq
      clear hq
      go_wp2_with (first | (refine wpList_store_all rfl 87 (.tmp 5) (.tmp 13) rfl w2.heap.size (entC x a' ca' b' cb') rfl rfl 87 zeroC (Blk.new w2 _ _) (entC_size _ _ _ _ _) rfl (by simp [entC, Value.oneCell']) ?_; intro w3 hb hos; (have HX3 := Lib.hid hb); (have HB3 := Lib.hid (below_two (HB2.out.alloc (by omega) (.cells zeroC 87)) hos (fun k hk e => by omega) (by rw [World.size_alloc]; omega))); (have HE3 := Lib.hid ((HE2.out.alloc (.cells zeroC 87)).onlyS hos (by omega))); (have HA3 := Lib.hid ((HAt.out.below ((Below.refl _ w2).alloc (Nat.le_refl _) (.cells zeroC 87))).only hos (fun b hb e => by omega) (by intro e; omega))); (have HM3 := Lib.hid ((HM.out.below ((Below.refl _ w2).alloc (Nat.le_refl _) (.cells zeroC 87))).wrote (Blk.new w2 _ _) hos)); (have hs3 : w2.heap.size < w3.heap.size := by have := hos.size; rw [World.size_alloc] at this; omega); clear hb hos))
      refine (refreadEnd_any HA3.out).mono ?_
      rintro e w4 ⟨rfl, ho⟩
      have HX4 := Lib.hid (HX3.out.onlyR ho (by omega))
      have HE4 := Lib.hid (HE3.out.onlyR ho (by omega))
      have HB4 := Lib.hid (HB3.out.trans (ho.below (by omega) (by omega)))
      have HM4 := Lib.hid (HM3.out.onlyR (by omega) ho)
      have hs4 : w3.heap.size ≤ w4.heap.size := ho.size
      clear ho
      rw [if_pos HQ.out]
      go_wp2_with (first | (refine wpList_load_by rfl 87 (.tmp 5) rfl _ _ rfl (HX4.out.loads 87 _ Try.underlying87 rfl (entC_size _ _ _ _ _)) ?_) | (refine wpList_store_all rfl 87 (.tmp 2) (.tmp 23) rfl w.heap.size (entC x a' ca' b' cb') rfl rfl 87 _ HE4.out (entC_size _ _ _ _ _) rfl (by simp [entC, Value.oneCell']) ?_; intro w6 hb hos; (have HZ := Lib.hid hb); (have HB6 := Lib.hid (below_two HB4.out hos (fun k hk e => by omega) (by omega))); (have HM6 := Lib.hid (HM4.out.wrote HE4.out hos)); clear hb hos))
      exact bodyPost_ret (v := .tuple #[.agg (entC x a' ca' b' cb'), .int .i64 0]) (ret_entry rfl _ _ w.heap.size _ _ rfl rfl rfl HZ.out) rfl (getEnd_ok HG.out (HM6.out.low (by omega)) HB6.out)
    · have HG := Lib.hid (show getR l = (Ent.zero, 5) by unfold getR; rw [HGe.out]; simp only; rw [if_neg hq])
      have HQ := Lib.hid hq
      have h5 : (((5 : Nat) : Int) != 0) = true := rfl
      clear hq
      go_wp2_with (first | (refine wpList_store_all rfl 87 (.tmp 5) (.tmp 13) rfl w2.heap.size (entC x a' ca' b' cb') rfl rfl 87 zeroC (Blk.new w2 _ _) (entC_size _ _ _ _ _) rfl (by simp [entC, Value.oneCell']) ?_; intro w3 hb hos; (have HB3 := Lib.hid (below_two (HB2.out.alloc (by omega) (.cells zeroC 87)) hos (fun k hk e => by omega) (by rw [World.size_alloc]; omega))); (have HE3 := Lib.hid ((HE2.out.alloc (.cells zeroC 87)).onlyS hos (by omega))); (have HA3 := Lib.hid ((HAt.out.below ((Below.refl _ w2).alloc (Nat.le_refl _) (.cells zeroC 87))).only hos (fun b hb e => by omega) (by intro e; omega))); (have hs3 : w2.heap.size < w3.heap.size := by have := hos.size; rw [World.size_alloc] at this; omega); clear hb hos))
      refine (refreadEnd_any HA3.out).mono ?_
      rintro e w4 ⟨rfl, ho⟩
      have HE4 := Lib.hid (HE3.out.onlyR ho (by omega))
      have HB4 := Lib.hid (HB3.out.trans (ho.below (by omega) (by omega)))
      have hs4 : w3.heap.size ≤ w4.heap.size := ho.size
      clear ho
      rw [if_neg HQ.out]
      go_wp2_with (first | (refine wpList_store_all rfl 87 (.tmp 2) (.tmp 21) rfl w.heap.size #[.int .u64 0, .int .i64 0, .int .u64 0, .int .u64 0, .slice none 0 0, .slice none 0 0] rfl rfl 87 zeroC HE4.out (by kernel_rfl) rfl (by simp [Value.oneCell']) ?_; intro w6 hb hos; (have HZ := Lib.hid hb); (have HB6 := Lib.hid (below_two HB4.out hos (fun k hk e => by omega) (by omega))); clear hb hos))
      exact bodyPost_ret (v := .tuple #[.agg zeroC, .int .i64 ((5 : Nat) : Int)]) (ret_entry rfl _ _ w.heap.size zeroC _ rfl rfl rfl HZ.out) rfl (getEnd_err HG.out HB6.out)

end Go.Proofs.Ytboongdoggggoaa
