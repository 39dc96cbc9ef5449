/- The reference's marks: a key's bytes turned. -/
import Derived.Test.YtlnhjllcgbdalaaDoorMacMark
import Derived.Test.YtlnhjllcgbdalaaDoorShaRefSum
namespace Go.Proofs.YtlnhjllcgbdalaaDoor
open Go.RowKit ShaMath MacMath Reg

theorem kb_keyAt (key : List UInt8) (i : Nat) (h : i < (keyL key).length) : (kb key).getD i 0 = (keyL key).getD i 0 := by
  unfold kb List.getD
  rw [List.getElem?_append_left h]
theorem kb_past (key : List UInt8) (i : Nat) (h : (keyL key).length ≤ i) : (kb key).getD i 0 = 0 := by
  unfold kb List.getD
  rw [List.getElem?_append_right h, List.getElem?_replicate]
  split <;> rfl
theorem xr_take_succ (key : List UInt8) (x : UInt8) (i : Nat) (h : i < 64) : (xr (kb key) x).take (i + 1) = (xr (kb key) x).take i ++ [(kb key).getD i 0 ^^^ x] := by
  have hl : i < (xr (kb key) x).length := by rw [xr_length, kb_length]; exact h
  rw [List.take_succ_eq_append_getElem hl]
  congr 2
  have hk : i < (kb key).length := by rw [kb_length]; exact h
  simp [xr, List.getD, hk]

theorem Row.lower {w : World} {B B' : Nat} {v : Value} {l : List UInt8} (h : Row w B v l) (hB : B' ≤ B) : Row w B' v l := by
  refine ⟨h.1, ?_⟩
  rcases h.2 with h0 | ⟨g, cap, cur, e, hb, h1⟩
  · exact .inl h0
  · exact .inr ⟨g, cap, cur, e, Nat.le_trans hB hb, h1⟩

/-- Between two rounds: i bytes are laid. -/
def PadAt (w : World) (key : List UInt8) (x : UInt8) (s6 s7 : Value) (wr : World) : Prop :=
  ∃ i : Nat, i ≤ 64 ∧ s7 = .int .i64 i ∧ Row wr w.heap.size s6 ((xr (kb key) x).take i) ∧ Below w.heap.size w wr

set_option maxRecDepth 100000 in
theorem pad_any (key : List UInt8) (x : UInt8) (a : Option Addr) (len cap : Nat) (w : World) (hv : Bys w (.slice a len cap) key) (hl : len ≤ 140737488355200) (hc : Consts w) :
    Calls Tryd.prog 19 #[.slice a len cap, bv x] w fun e w' => ∃ v, e = .returned v ∧ Row w' w.heap.size v (xr (kb key) x) ∧ Below w.heap.size w w' := by
  have hlen := bys_len hv
  have HV := Lib.hid hv
  have HLen := Lib.hid hlen
  have HC := Lib.hid hc
  obtain ⟨kx, hkx⟩ : ∃ kx : Nat, kx = x.toNat := ⟨_, rfl⟩
  have hbx : bv x = .int .u8 (kx : Int) := by rw [bv, hkx]
  rw [hbx]
  have hkx1 : kx < 256 := by rw [hkx]; exact x.toNat_lt
  have HKx := Lib.hid hkx
  clear hv hlen hc hbx hkx
  go_enter Tryd.func19, Tryd.ntmps19
  by_cases hlong : 64 < len
  · have hkey : keyL key = ShaMath.hash key := by rw [keyL, if_pos (by rw [HLen.out]; exact hlong)]
    obtain ⟨hs, hhs⟩ : ∃ hs, hs = bs (ShaMath.hash key) := ⟨_, rfl⟩
    have hsum := refsum_any key a len cap w HV.out HLen.out hl HC.out
    rw [← hhs] at hsum
    have hsl32 : hs.size = 32 := by rw [hhs, bs_size, hash_length]
    have hone : hs.all (·.oneCell') = true := by rw [hhs]; exact bs_one _
    have hsz : (Tryd.prog.info? 26).map (·.size) = some hs.size := by rw [hsl32]; kernel_rfl
    have HKey := Lib.hid hkey
    have HHs := Lib.hid hhs
    have HSum := Lib.hid hsum
    have HS32 := Lib.hid hsl32
    have HOneH := Lib.hid hone
    have HSzH := Lib.hid hsz
    clear hkey hhs hsum hsl32 hone hsz
    go_wp2_with fail
    refine HSum.out.mono ?_
    rintro e w2 ⟨rfl, hb2⟩
    have hs2 := hb2.size
    have HB2 := Lib.hid hb2
    clear hb2 HSum
    go_upto_region 3 with (refine wpList_store_row rfl 26 (.tmp 5) (.tmp 13) rfl w2.heap.size hs rfl rfl 26 _ (heap_alloc_new w2 _) HSzH.out (by rw [HS32.out]; rfl) HOneH.out ?_)
    refine world_cut (fun W => Below w.heap.size w W ∧ Blk W w2.heap.size 26 hs) ⟨below_setRow (HB2.out.alloc (by omega) _) _ _ (by omega), Blk.row (Blk.new w2 _ _) hs⟩ ?_
    obtain ⟨g4, hg4⟩ : ∃ g4, g4 = w2.heap.size := ⟨_, rfl⟩
    rw [← hg4]
    clear hg4 HB2
    rintro W3 ⟨h3, h6⟩
    have hby : Bys W3 (.slice (some ⟨g4, 0, none⟩) 32 32) (keyL key) := by
      rw [HHs.out] at h6
      rw [HKey.out]
      exact h6.bysOf 32 32 (hash_length _)
    have HB := Lib.hid h3
    have HBy := Lib.hid hby
    have HKl : Hid ((keyL key).length = 32) := Lib.hid (by rw [HKey.out]; exact hash_length _)
    clear h3 h6 hby
    have hsl0 := slice_hash_all g4
    go_upto_region 4 with fail
    clear hsl0
    go_wp2
    go_loopw [6, 7, 8] (fun s6 s7 _ wr => PadAt W3 key x s6 s7 wr) (fun _ s7 _ _ => 64 - (intOf s7).toNat)
    case atStart => exact ⟨0, by omega, rfl, ⟨rfl, .inl ⟨rfl, rfl⟩⟩, Below.refl _ _⟩
    case round =>
      obtain ⟨i, hi, rfl, hrow, hbel⟩ := hrel
      obtain ⟨a6, c6, rfl⟩ := slice_of_row hrow
      have htl : ((xr (kb key) x).take i).length = i := by rw [List.length_take, xr_length, kb_length]; omega
      rw [htl] at hrow ⊢
      have HR := Lib.hid hrow
      have HBl := Lib.hid hbel
      have HTl := Lib.hid htl
      have hsz := hbel.size
      clear hrow hbel htl
      by_cases hlt : i < 64
      · obtain ⟨y, hy⟩ : ∃ y, y = (kb key).getD i 0 := ⟨_, rfl⟩
        obtain ⟨z, hz⟩ : ∃ z, z = (y ^^^ x) := ⟨_, rfl⟩
        obtain ⟨ky, hky⟩ : ∃ ky : Nat, ky = y.toNat := ⟨_, rfl⟩
        obtain ⟨kz, hkz⟩ : ∃ kz : Nat, kz = z.toNat := ⟨_, rfl⟩
        have f1 : bits .xor .u8 (ky : Int) (kx : Int) = (kz : Int) := by rw [hky, HKx.out, u8_xor_bv, hkz, hz]
        have hbz : Value.int .u8 (kz : Int) = bv z := by rw [bv, hkz]
        have hmore : (xr (kb key) x).take (i + 1) = (xr (kb key) x).take i ++ [z] := by rw [hz, hy]; exact xr_take_succ key x i hlt
        have HA := Lib.hid (grow_one (w := W3) (kz : Int) z hbz hsz HR.out (by rw [HTl.out]; omega) HBl.out)
        have HMore := Lib.hid hmore
        have hky1 : ky < 256 := by rw [hky]; exact y.toNat_lt
        have hkz1 : kz < 256 := by rw [hkz]; exact z.toNat_lt
        by_cases hin : i < 32
        · have hyk : y = (keyL key).getD i 0 := by rw [hy, kb_keyAt key i (by rw [HKl.out]; exact hin)]
          obtain ⟨ad, hae, hcell⟩ : ∃ ad : Addr, (some (⟨g4, 0, none⟩ : Addr)) = some ad ∧ wr.cell? (ad.add i) = some (.int .u8 (ky : Int)) := by
            rcases HBy.out.below (Nat.le_refl _) HBl.out with ⟨e, h0⟩ | ⟨ad, c, e, hc⟩
            · exfalso
              have e2 := congrArg List.length h0
              have := HKl.out
              simp only [List.length_nil] at e2
              omega
            · refine ⟨ad, (Value.slice.inj e).1, ?_⟩
              rw [hc i (by rw [HKl.out]; exact hin), bv, hky, hyk]
              have hin2 : i < (keyL key).length := by rw [HKl.out]; exact hin
              simp [List.getD, hin2]
          obtain rfl := Option.some.inj hae
          rw [addr_add, Nat.zero_add] at hcell
          clear hy hz hky hkz hbz hmore hyk
          go_wp2_with (at_builtin; refine wpList_append_by rfl (.tmp 27) (.tmp 31) 22 rfl _ _ rfl rfl _ HA.out ?_; rintro v' w2 ⟨hr2, hb2⟩; (have HR2 := Lib.hid hr2); (have HB2 := Lib.hid hb2); clear hr2 hb2)
          go_roundw
          case rel => exact ⟨i + 1, by omega, by go_num, by rw [HMore.out]; exact HR2.out, HB2.out⟩
          case measure => simp [intOf]; omega
        · have hy0 : y = 0 := by rw [hy, kb_past key i (by rw [HKl.out]; omega)]
          have hky0 : ky = 0 := by rw [hky, hy0]; rfl
          have f1 : bits .xor .u8 0 (kx : Int) = (kz : Int) := by rw [← f1, hky0]; rfl
          clear hy hz hky hkz hbz hmore hy0
          go_wp2_with (at_builtin; refine wpList_append_by rfl (.tmp 27) (.tmp 31) 22 rfl _ _ rfl rfl _ HA.out ?_; rintro v' w2 ⟨hr2, hb2⟩; (have HR2 := Lib.hid hr2); (have HB2 := Lib.hid hb2); clear hr2 hb2)
          go_roundw
          case rel => exact ⟨i + 1, by omega, by go_num, by rw [HMore.out]; exact HR2.out, HB2.out⟩
          case measure => simp [intOf]; omega
      · have hi64 : i = 64 := by omega
        have HI64 := Lib.hid hi64
        clear hi64 hi
        go_wp2
        go_ret
        refine ⟨_, rfl, ?_, HB.out.trans (HBl.out.mono HB.out.size)⟩
        have h := HR.out
        rw [HI64.out, List.take_of_length_le (by rw [xr_length, kb_length]; omega)] at h
        exact Row.lower (by rw [HI64.out] ; exact h) HB.out.size
  · have hkey : keyL key = key := by rw [keyL, if_neg (by rw [HLen.out]; exact hlong)]
    have hby : Bys w (.slice a len cap) (keyL key) := by
      rw [hkey]
      exact HV.out
    have HBy := Lib.hid hby
    have HKl : Hid ((keyL key).length = len) := Lib.hid (by rw [hkey]; exact HLen.out)
    have HB : Hid (Below w.heap.size w w) := Lib.hid (Below.refl _ _)
    clear hby hkey
    go_upto_region 4 with fail
    go_wp2
    go_loopw [6, 7, 8] (fun s6 s7 _ wr => PadAt w key x s6 s7 wr) (fun _ s7 _ _ => 64 - (intOf s7).toNat)
    case atStart => exact ⟨0, by omega, rfl, ⟨rfl, .inl ⟨rfl, rfl⟩⟩, Below.refl _ _⟩
    case round =>
      obtain ⟨i, hi, rfl, hrow, hbel⟩ := hrel
      obtain ⟨a6, c6, rfl⟩ := slice_of_row hrow
      have htl : ((xr (kb key) x).take i).length = i := by rw [List.length_take, xr_length, kb_length]; omega
      rw [htl] at hrow ⊢
      have HR := Lib.hid hrow
      have HBl := Lib.hid hbel
      have HTl := Lib.hid htl
      have hsz := hbel.size
      clear hrow hbel htl
      by_cases hlt : i < 64
      · obtain ⟨y, hy⟩ : ∃ y, y = (kb key).getD i 0 := ⟨_, rfl⟩
        obtain ⟨z, hz⟩ : ∃ z, z = (y ^^^ x) := ⟨_, rfl⟩
        obtain ⟨ky, hky⟩ : ∃ ky : Nat, ky = y.toNat := ⟨_, rfl⟩
        obtain ⟨kz, hkz⟩ : ∃ kz : Nat, kz = z.toNat := ⟨_, rfl⟩
        have f1 : bits .xor .u8 (ky : Int) (kx : Int) = (kz : Int) := by rw [hky, HKx.out, u8_xor_bv, hkz, hz]
        have hbz : Value.int .u8 (kz : Int) = bv z := by rw [bv, hkz]
        have hmore : (xr (kb key) x).take (i + 1) = (xr (kb key) x).take i ++ [z] := by rw [hz, hy]; exact xr_take_succ key x i hlt
        have HA := Lib.hid (grow_one (w := w) (kz : Int) z hbz hsz HR.out (by rw [HTl.out]; omega) HBl.out)
        have HMore := Lib.hid hmore
        have hky1 : ky < 256 := by rw [hky]; exact y.toNat_lt
        have hkz1 : kz < 256 := by rw [hkz]; exact z.toNat_lt
        by_cases hin : i < len
        · have hyk : y = (keyL key).getD i 0 := by rw [hy, kb_keyAt key i (by rw [HKl.out]; exact hin)]
          obtain ⟨ad, hae, hcell⟩ : ∃ ad : Addr, a = some ad ∧ wr.cell? (ad.add i) = some (.int .u8 (ky : Int)) := by
            rcases HBy.out.below (Nat.le_refl _) HBl.out with ⟨e, h0⟩ | ⟨ad, c, e, hc⟩
            · exfalso
              have e2 := congrArg List.length h0
              have := HKl.out
              simp only [List.length_nil] at e2
              omega
            · refine ⟨ad, (Value.slice.inj e).1, ?_⟩
              rw [hc i (by rw [HKl.out]; exact hin), bv, hky, hyk]
              have hin2 : i < (keyL key).length := by rw [HKl.out]; exact hin
              simp [List.getD, hin2]
          subst hae
          clear hy hz hky hkz hbz hmore hyk
          go_wp2_with (at_builtin; refine wpList_append_by rfl (.tmp 27) (.tmp 31) 22 rfl _ _ rfl rfl _ HA.out ?_; rintro v' w2 ⟨hr2, hb2⟩; (have HR2 := Lib.hid hr2); (have HB2 := Lib.hid hb2); clear hr2 hb2)
          go_roundw
          case rel => exact ⟨i + 1, by omega, by go_num, by rw [HMore.out]; exact HR2.out, HB2.out⟩
          case measure => simp [intOf]; omega
        · have hy0 : y = 0 := by rw [hy, kb_past key i (by rw [HKl.out]; omega)]
          have hky0 : ky = 0 := by rw [hky, hy0]; rfl
          have f1 : bits .xor .u8 0 (kx : Int) = (kz : Int) := by rw [← f1, hky0]; rfl
          clear hy hz hky hkz hbz hmore hy0
          go_wp2_with (at_builtin; refine wpList_append_by rfl (.tmp 27) (.tmp 31) 22 rfl _ _ rfl rfl _ HA.out ?_; rintro v' w2 ⟨hr2, hb2⟩; (have HR2 := Lib.hid hr2); (have HB2 := Lib.hid hb2); clear hr2 hb2)
          go_roundw
          case rel => exact ⟨i + 1, by omega, by go_num, by rw [HMore.out]; exact HR2.out, HB2.out⟩
          case measure => simp [intOf]; omega
      · have hi64 : i = 64 := by omega
        have HI64 := Lib.hid hi64
        clear hi64 hi
        go_wp2
        go_ret
        refine ⟨_, rfl, ?_, HB.out.trans (HBl.out.mono HB.out.size)⟩
        have h := HR.out
        rw [HI64.out, List.take_of_length_le (by rw [xr_length, kb_length]; omega)] at h
        exact Row.lower (by rw [HI64.out] ; exact h) HB.out.size
end Go.Proofs.YtlnhjllcgbdalaaDoor
