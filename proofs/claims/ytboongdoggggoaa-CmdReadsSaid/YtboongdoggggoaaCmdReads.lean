/- The law CmdReads, walked. -/
import Derived.Test.YtboongdoggggoaaCmdCopy
import Derived.Test.YtboongdoggggoaaFrame
namespace Go.Proofs.Ytboongdoggggoaa
set_option maxRecDepth 20000
open Go.RowKit BinMath CmdMath

set_option maxHeartbeats 400000 in
set_option maxRecDepth 100000 in
theorem reads_all (w : World) (a : Option Addr) (len cap : Nat) (zs : List Int) (hz : IsRow .u8 w a len cap zs) (hs : cap * 1 ≤ 140737488351232) :
    Calls Try.prog 9 #[.slice a len cap] w fun e w' => e = .returned (.bool true) ∧ Below w.heap.size w w' := by
  obtain ⟨l, hlen, hv⟩ := hz.bys
  have hlc := hz.le
  have hll : l.length ≤ 140737488351232 := by omega
  obtain ⟨x, c, hxc⟩ : ∃ x c, getR l = (x, c) := ⟨_, _, rfl⟩
  have HV := Lib.hid hv
  have HXC := Lib.hid hxc
  have HN5 := Lib.hid hlen.symm
  have hn5b : len ≤ 140737488351232 := by omega
  clear hv hz hs hxc hlen
  go_enter Try.func9, Try.ntmps9
  go_wp2_with fail
  refine (awake_any _).mono ?_
  rintro e w1 ⟨rfl, hb1⟩
  have HV1 := Lib.hid (HV.out.below (Nat.le_refl _) hb1)
  have B1 := Lib.hid hb1
  clear hb1
  have A1 := Lib.hid (append_lit (B := w1.heap.size) (g := w1.heap.size) (w := w1.alloc (.cells #[] 5)) (Nat.le_refl _) (heap_alloc_new w1 _) (HV1.out.below (Nat.le_refl _) ((Below.refl _ w1).alloc (Nat.le_refl _) _)) (by have := HN5.out; omega))
  go_wp2_with (at_builtin; refine wpList_append_by rfl (.tmp 11) (.tmp 12) 22 rfl _ _ rfl rfl _ A1.out ?_; rintro v5 w2 ⟨hr5, hb2⟩; (obtain ⟨a5, c5, rfl⟩ : ∃ a c, v5 = .slice a len c := by rw [HN5.out]; exact slice_of_row hr5); (have HR5 := Lib.hid hr5); (have HG5 := Lib.hid (get_is HXC.out hr5.bys hll)); (have hs12 : w1.heap.size + 1 ≤ w2.heap.size := by have := hb2.size; rw [World.size_alloc] at this; omega); (have B2 := Lib.hid (B1.out.trans (((Below.refl _ w1).alloc (Nat.le_refl _) (.cells #[] 5)).trans (hb2.mono (by rw [World.size_alloc]; omega)) |>.mono B1.out.size))); clear hr5 hb2)
  refine HG5.out.mono ?_
  rintro e w3 ⟨ax, cax, bx, cbx, rfl, hm, hb3⟩
  have HM3 := Lib.hid hm
  have HB3 := Lib.hid (B2.out.trans (hb3.mono B2.out.size))
  have HR3 := Lib.hid (HR5.out.below hb3)
  have H52 := Lib.hid (show ∀ g, a5 = some ⟨g, 0, none⟩ → w1.heap.size ≤ g ∧ g < w2.heap.size from fun g hg => HR5.out.lt g (by rw [hg]; rfl))
  have hs23 : w2.heap.size ≤ w3.heap.size := hb3.size
  have hs01 : w.heap.size ≤ w1.heap.size := B1.out.size
  clear hm hb3 A1 HG5 HR5
  go_wp2_with (refine wpList_store_all rfl 87 (.tmp 4) (.tmp 17) rfl w3.heap.size (entC x ax cax bx cbx) rfl rfl 87 zeroC (Blk.new w3 _ _) (entC_size _ _ _ _ _) rfl (by simp [entC, Value.oneCell']) ?_; intro w4 hb hos; (have HE4 := Lib.hid hb); (have HB4 := Lib.hid (below_two (HB3.out.alloc HB3.out.size (.cells zeroC 87)) hos (fun k hk e => by omega) (by rw [World.size_alloc]; omega))); (have HM4 := Lib.hid ((HM3.out.below ((Below.refl _ w3).alloc (Nat.le_refl _) (.cells zeroC 87))).wrote (Blk.new w3 _ _) hos)); (have HR4 := Lib.hid (row_wrote (HR3.out.below ((Below.refl _ w3).alloc (Nat.le_refl _) (.cells zeroC 87))) (Blk.new w3 _ _) hos)); (have hs34 : w3.heap.size + 1 ≤ w4.heap.size := by have := hos.size; rw [World.size_alloc] at this; omega); clear hb hos)
  obtain ⟨g4, hg4⟩ : ∃ g4, g4 = w3.heap.size := ⟨_, rfl⟩
  rw [← hg4] at HE4 hs34 hs23 ⊢
  clear hg4
  go_loopw [6] (fun s6 wr => ∃ i : Nat, i ≤ len ∧ s6 = .int .i64 (i : Int) ∧ (∃ l', l'.length = len ∧ Row wr w1.heap.size (.slice a5 len c5) l') ∧ OnlyS (fun b => a5 = some ⟨b, 0, none⟩) w4 wr) (fun s6 _ => len - (intOf s6).toNat)
  case atStart =>
    refine ⟨0, Nat.zero_le _, rfl, ⟨l, HN5.out.symm, ?_⟩, OnlyS.refl _ _⟩
    exact HR4.out
  case round =>
    obtain ⟨i, hi, rfl, ⟨l', hl', hrow⟩, hon⟩ := hrel
    by_cases hin : i < len
    · have hin' : (i : Int) < (len : Int) := by omega
      obtain ⟨g, c', e, hBg, hgs, -⟩ := hrow.shape (by intro h; subst h; simp at hl'; omega)
      rw [hl'] at e
      cases e
      obtain ⟨⟨z, hc⟩, hf⟩ := row_cell hrow i (by omega)
      have HRow := Lib.hid hrow
      have HOn := Lib.hid hon
      have HL' := Lib.hid hl'
      clear hrow hon hl'
      go_wp2
      go_roundw
      case rel =>
        obtain ⟨b, hb⟩ := u8_wrap (z + 1)
        refine ⟨i + 1, by omega, by go_num, ⟨l'.set i b, by rw [List.length_set, HL'.out], ?_⟩, HOn.out.setCell (fun _ => rfl) _⟩
        have h := row_set HRow.out i b
        rw [← hb] at h
        exact h
      case measure => simp [intOf]; omega
    · have hin' : ¬ ((i : Int) < (len : Int)) := by omega
      have hbo : Below w.heap.size w wr := HB4.out.trans (hon.below (fun g h1 h2 => by have := (H52.out g h2).1; omega) (by omega))
      have HE5 := Lib.hid (HE4.out.onlyS hon (fun h => by have := (H52.out g4 h).2; omega))
      have HM5 := Lib.hid (HM4.out.far hon (fun k hk h => by have := (H52.out k h).2; omega))
      have HB5 := Lib.hid hbo
      have HF := Lib.hid (refget_is HXC.out (HV.out.below (Nat.le_refl _) hbo) hll hlc)
      have hs45 : w4.heap.size ≤ wr.heap.size := hon.size
      clear hrow hon hbo hl'
      go_wp2_with fail
      refine HF.out.mono ?_
      rintro e w6 ⟨ay, cay, by', cby, rfl, hm, hb6⟩
      have HM6 := Lib.hid hm.has
      have HN6 := Lib.hid (HM5.out.below hb6).has
      have HE6 := Lib.hid (HE5.out.keep hb6)
      have HB6 := Lib.hid (HB5.out.trans (hb6.mono HB5.out.size))
      have hs56 : wr.heap.size ≤ w6.heap.size := hb6.size
      clear hm hb6 HF
      have hcc : ((c : Int) == (c : Int)) = true := beq_self_eq_true _
      go_wp2_with (first | (refine wpList_store_all rfl 87 (.tmp 7) (.tmp 34) rfl w6.heap.size (entC x ay cay by' cby) rfl rfl 87 zeroC (Blk.new w6 _ _) (entC_size _ _ _ _ _) rfl (by simp [entC, Value.oneCell']) ?_; intro w7 hb hos; (have HE7 := Lib.hid ((HE6.out.alloc (.cells zeroC 87)).onlyS hos (by omega))); (have HF7 := Lib.hid hb); (have hb7 := below_two ((Below.refl w6.heap.size w6).alloc (Nat.le_refl _) (.cells zeroC 87)) hos (fun k hk e => by omega) (by rw [World.size_alloc]; omega)); (have HB7 := Lib.hid (HB6.out.trans (hb7.mono HB6.out.size))); (have HS7 := Lib.hid (refSame_self x _ _ _ _ _ _ _ _ w7 (HN6.out.below (Nat.le_refl _) hb7) (HM6.out.below (Nat.le_refl _) hb7))); clear hb hos hb7) | (refine wpList_load_guarded rfl 87 (.tmp 4) rfl _ _ rfl (HE7.out.loads 87 _ Try.underlying87 rfl (entC_size _ _ _ _ _)) ?_) | (refine wpList_load_guarded rfl 87 (.tmp 7) rfl _ _ rfl (HF7.out.loads 87 _ Try.underlying87 rfl (entC_size _ _ _ _ _)) ?_))
      refine HS7.out.mono ?_
      rintro e w8 ⟨rfl, hb8⟩
      have HB8 := Lib.hid (HB7.out.trans (hb8.mono HB7.out.size))
      clear hb8
      go_wp2
      go_ret
      exact ⟨rfl, HB8.out⟩

end Go.Proofs.Ytboongdoggggoaa
