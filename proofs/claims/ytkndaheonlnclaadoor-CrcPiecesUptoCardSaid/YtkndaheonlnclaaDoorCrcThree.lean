/- CrcThree: the walk. -/
import Derived.Test.YtkndaheonlnclaaDoorCrcTab
import Derived.Test.YtkndaheonlnclaaDoorFacts
import Derived.Deep.RegionHeld3
import Derived.Deep.AppendLies
import Derived.BigQuiet
import Derived.Deep.QuietTactic
namespace Go.Proofs.YtkndaheonlnclaaDoor
open Go.RowKit CrcMath

/-- Bytes, the slice opened. -/
theorem Bys.open {w : World} {a : Option Addr} {len cap : Nat} {l : List UInt8} (h : Bys w (.slice a len cap) l) : l.length = len ∧ ∀ (i : Nat) (hi : i < l.length), ∃ ad, a = some ad ∧ w.cell? (ad.add i) = some (bv l[i]) := by
  rcases h with ⟨h1, rfl⟩ | ⟨ad, c, h1, hc⟩
  · simp at h1
    obtain ⟨rfl, rfl, rfl⟩ := h1
    exact ⟨rfl, fun i hi => by simp at hi⟩
  · simp at h1
    obtain ⟨rfl, rfl, rfl⟩ := h1
    exact ⟨rfl, fun i hi => ⟨ad, rfl, hc i hi⟩⟩

theorem x3_length (l m n : List UInt8) (h1 : m.length = l.length) (h2 : n.length = l.length) : (x3 l m n).length = l.length := by
  induction l generalizing m n with
  | nil => cases m <;> cases n <;> simp_all [x3]
  | cons x l ih =>
    cases m with
    | nil => simp at h1
    | cons y m =>
      cases n with
      | nil => simp at h2
      | cons z n => simp [x3, ih m n (by simpa using h1) (by simpa using h2)]

theorem x3_snoc (l m n : List UInt8) (x y z : UInt8) (h1 : m.length = l.length) (h2 : n.length = l.length) : x3 (l ++ [x]) (m ++ [y]) (n ++ [z]) = x3 l m n ++ [x ^^^ y ^^^ z] := by
  induction l generalizing m n with
  | nil =>
    obtain rfl := List.eq_nil_of_length_eq_zero h1
    obtain rfl := List.eq_nil_of_length_eq_zero h2
    rfl
  | cons u l ih =>
    cases m with
    | nil => simp at h1
    | cons v m =>
      cases n with
      | nil => simp at h2
      | cons q n =>
        simp only [List.cons_append, x3]
        rw [ih m n (by simpa using h1) (by simpa using h2)]

/-- What the loop has done so far. -/
def XorAt (B : Nat) (w0 : World) (la lb lc : List UInt8) (n : Nat) (s8 s9 : Value) (wr : World) : Prop :=
  ∃ i : Nat, i ≤ n ∧ s9 = .int .i64 i ∧ Row wr B s8 (x3 (la.take i) (lb.take i) (lc.take i)) ∧ Below B w0 wr

theorem u8_xor_bv (a b : UInt8) : bits .xor .u8 (a.toNat : Int) (b.toNat : Int) = ((a ^^^ b).toNat : Int) := by
  rw [u8_xor_nat _ _ a.toNat_lt b.toNat_lt, UInt8.toNat_xor]

set_option maxRecDepth 100000 in
set_option maxHeartbeats 2000000 in
theorem three_walk (a b c : Option Addr) (na nb nc ca cb cc : Nat) (la lb lc : List UInt8) (w : World) (ha : Bys w (.slice a na ca) la) (hb : Bys w (.slice b nb cb) lb) (hc : Bys w (.slice c nc cc) lc) (hna : na ≤ ca) (hnb : nb ≤ cb) (hnc : nc ≤ cc) (hla : ca ≤ 140737488351232) (ht : Tab w) :
    Calls Tryd.prog 8 #[.slice a na ca, .slice b nb cb, .slice c nc cc] w fun e w' => e = .returned (.bool true) ∧ Below w.heap.size w w' := by
  obtain ⟨i0, hi0, hz0, hz1, hz2⟩ := info_parts info_byte
  have HT := Lib.hid ht
  have HA := Lib.hid ha
  have HB := Lib.hid hb
  have HC := Lib.hid hc
  clear ha hb hc ht
  obtain ⟨n, hn⟩ : ∃ n : Nat, (if (nc : Int) < (if (nb : Int) < na then (nb : Int) else na) then (nc : Int) else (if (nb : Int) < na then (nb : Int) else na)) = (n : Int) ∧ n ≤ na ∧ n ≤ nb ∧ n ≤ nc := by
    by_cases h1 : (nb : Int) < na
    · rw [if_pos h1]
      by_cases h2 : (nc : Int) < nb
      · exact ⟨nc, by rw [if_pos h2], by omega, by omega, by omega⟩
      · exact ⟨nb, by rw [if_neg h2], by omega, by omega, by omega⟩
    · rw [if_neg h1]
      by_cases h2 : (nc : Int) < na
      · exact ⟨nc, by rw [if_pos h2], by omega, by omega, by omega⟩
      · exact ⟨na, by rw [if_neg h2], by omega, by omega, by omega⟩
  obtain ⟨hn0, hnA, hnB, hnC⟩ := hn
  have hmin : ∀ (ts : Array TypeId) (t : TypeId) (W : World), (Builtin.min_ ts t #[.int .i64 (na : Int), .int .i64 (nb : Int), .int .i64 (nc : Int)]).run Tryd.prog W = .ok (.int .i64 (n : Int)) W := fun ts t W => by
    rw [run_min_int3, hn0]
  clear hn0
  go_enter Tryd.func8, Tryd.ntmps8
  go_wp2_with fail
  refine (awake_any _ HT.out).mono ?_
  rintro e w1 ⟨rfl, hb1⟩
  have HA1 := Lib.hid (HA.out.below (Nat.le_refl _) hb1)
  have HB1 := Lib.hid (HB.out.below (Nat.le_refl _) hb1)
  have HC1 := Lib.hid (HC.out.below (Nat.le_refl _) hb1)
  have HT1 := Lib.hid (HT.out.below (Nat.le_refl _) hb1)
  have B1 := Lib.hid hb1
  clear hb1
  go_wp2
  clear hmin
  go_loopw [8, 9] (fun s8 s9 wr => XorAt w.heap.size w la lb lc n s8 s9 wr) (fun _ s9 _ => n - (intOf s9).toNat)
  case atStart => exact ⟨0, Nat.zero_le _, rfl, World.ownsRow_nil _ _ _ _, B1.out⟩
  case round =>
    obtain ⟨i, hi, rfl, hrow, hbel⟩ := hrel
    have HAr := Lib.hid (HA.out.below (Nat.le_refl _) hbel)
    have HBr := Lib.hid (HB.out.below (Nat.le_refl _) hbel)
    have HCr := Lib.hid (HC.out.below (Nat.le_refl _) hbel)
    have HTr := Lib.hid (HT.out.below (Nat.le_refl _) hbel)
    have lA := HA.out.open.1
    have lB := HB.out.open.1
    have lC := HC.out.open.1
    have hsz := hbel.size
    have HR := Lib.hid hrow
    have HBe := Lib.hid hbel
    clear hrow hbel
    by_cases hlt : i < n
    · obtain ⟨pa, rfl, ga⟩ := HA.out.open.2 i (by omega)
      obtain ⟨pb, rfl, gb⟩ := HB.out.open.2 i (by omega)
      obtain ⟨pc, rfl, gc⟩ := HC.out.open.2 i (by omega)
      obtain ⟨_, e1, fa⟩ := HAr.out.open.2 i (by omega)
      obtain ⟨_, e2, fb⟩ := HBr.out.open.2 i (by omega)
      obtain ⟨_, e3, fc⟩ := HCr.out.open.2 i (by omega)
      cases e1
      cases e2
      cases e3
      have ba := World.block_lt_of_cell? w _ ga
      have bb := World.block_lt_of_cell? w _ gb
      have bc := World.block_lt_of_cell? w _ gc
      rw [add_block] at ba bb bc
      have oa : ∀ p : Nat, p < w.heap.size → u8.ownBlock ≠ some p := fun p hp h => by have := (World.ownsRow.lt HR.out p h).1; omega
      have OA := Lib.hid (oa _ ba)
      have OB := Lib.hid (oa _ bb)
      have OC := Lib.hid (oa _ bc)
      obtain ⟨x, hx⟩ : ∃ x, x = la[i]'(by omega) := ⟨_, rfl⟩
      obtain ⟨y, hy⟩ : ∃ x, x = lb[i]'(by omega) := ⟨_, rfl⟩
      obtain ⟨z, hz⟩ : ∃ x, x = lc[i]'(by omega) := ⟨_, rfl⟩
      rw [← hx, bv] at fa
      rw [← hy, bv] at fb
      rw [← hz, bv] at fc
      obtain ⟨kx, hkx⟩ : ∃ k : Nat, k = x.toNat := ⟨_, rfl⟩
      obtain ⟨ky, hky⟩ : ∃ k : Nat, k = y.toNat := ⟨_, rfl⟩
      obtain ⟨kz, hkz⟩ : ∃ k : Nat, k = z.toNat := ⟨_, rfl⟩
      obtain ⟨k1, hk1⟩ : ∃ k : Nat, k = (x ^^^ y).toNat := ⟨_, rfl⟩
      obtain ⟨k2, hk2⟩ : ∃ k : Nat, k = (x ^^^ y ^^^ z).toNat := ⟨_, rfl⟩
      have f1 : bits .xor .u8 (kx : Int) (ky : Int) = (k1 : Int) := by rw [hkx, hky, u8_xor_bv, hk1]
      have f2 : bits .xor .u8 (k1 : Int) (kz : Int) = (k2 : Int) := by rw [hk1, hkz, u8_xor_bv, hk2]
      have hbvk : bv (x ^^^ y ^^^ z) = .int .u8 (k2 : Int) := by rw [bv, hk2]
      rw [← hkx] at fa
      rw [← hky] at fb
      rw [← hkz] at fc
      have hs3 : x3 (la.take (i + 1)) (lb.take (i + 1)) (lc.take (i + 1)) = x3 (la.take i) (lb.take i) (lc.take i) ++ [x ^^^ y ^^^ z] := by
        rw [List.take_succ_eq_append_getElem (by omega), List.take_succ_eq_append_getElem (by omega), List.take_succ_eq_append_getElem (by omega), x3_snoc _ _ _ _ _ _ (by simp; omega) (by simp; omega), hx, hy, hz]
      have hl3 : (x3 (la.take i) (lb.take i) (lc.take i)).length = i := by
        rw [x3_length _ _ _ (by simp; omega) (by simp; omega), List.length_take]; omega
      have HS3 := Lib.hid hs3
      have HL3 := Lib.hid hl3
      have HBV := Lib.hid hbvk
      have hrow : wr.ownsRow w.heap.size 5 1 u8 i ((x3 (la.take i) (lb.take i) (lc.take i)).map bv) := by
        have := HR.out
        unfold Row at this
        rwa [hl3] at this
      have HRow := Lib.hid hrow
      clear hx hy hz hkx hky hkz hk1 hk2 hbvk hs3 hl3 hrow oa ga gb gc
      have i0' : (0 : Int) ≤ (i : Int) := Int.natCast_nonneg _
      have iA : (i : Int) < (na : Int) := by omega
      have iB : (i : Int) < (nb : Int) := by omega
      have iC : (i : Int) < (nc : Int) := by omega
      go_wp2_with fail
      go_region_held3 (fun w' => w'.cell? (pa.add i) = some (.int .u8 (kx : Int)) ∧ w'.cell? (pb.add i) = some (.int .u8 (ky : Int)) ∧ w'.cell? (pc.add i) = some (.int .u8 (kz : Int)))
        (first
          | go_keep
          | (go_split_ands
             refine ⟨?_, ?_, ?_⟩
             · (rw [hgrow.cell_far (pa.add i) (by rw [add_block]; simp; omega) (by rw [add_block]; exact Ne.symm OA.out)]; assumption)
             · (rw [hgrow.cell_far (pb.add i) (by rw [add_block]; simp; omega) (by rw [add_block]; exact Ne.symm OB.out)]; assumption)
             · (rw [hgrow.cell_far (pc.add i) (by rw [add_block]; simp; omega) (by rw [add_block]; exact Ne.symm OC.out)]; assumption)))
        ((refine step_append_lies _ (by rfl) _ _ _ (by rfl) w.heap.size 5 i0 _ 1 1 Tryd.underlying22 hi0 hz0 hz1 hz2 rfl (by omega) u8 i _ (by rfl) ((HRow.out.alloc _).drew)
            ⟨wr.heap.size, 0, none⟩ 1 1 [.int .u8 (k2 : Int)] (by rfl) (by rfl) (World.news_of_block (cs := #[.int .u8 (k2 : Int)]) (t := 5) (fr := (0, 0)) (heap_alloc_new wr _)) (by simp [Value.oneCell'])
            (by omega) (by unfold maxLen; omega) (by omega) (by simp; omega) (wr.heap.size + 1) (by simp) ?_; intro gg cap w2 hown1 hgrow hat hltg))
      all_goals
        have HO1 := Lib.hid hown1
        have HG1 := Lib.hid hgrow
        clear hown1 hgrow hat hltg
        go_wp2
        go_roundw
        case rel =>
          refine ⟨i + 1, by omega, by go_num, ?_, ?_⟩
          · have h := HO1.out
            unfold Row
            rw [HS3.out, List.length_append, HL3.out, List.map_append]
            simpa [HBV.out] using h
          · exact (((HBe.out).alloc hsz _).drew).grown HG1.out (by simp; omega) (fun k hk => (World.ownsRow.lt HR.out k hk).1)
        case measure => simp [intOf]; omega
    · obtain ⟨L, hL⟩ : ∃ L, L = x3 (la.take i) (lb.take i) (lc.take i) := ⟨_, rfl⟩
      rw [← hL] at HR
      obtain ⟨r1, hr1⟩ : ∃ r, r = sum L := ⟨_, rfl⟩
      obtain ⟨ra, hra⟩ : ∃ r, r = sum (la.take n) := ⟨_, rfl⟩
      obtain ⟨rb, hrb⟩ : ∃ r, r = sum (lb.take n) := ⟨_, rfl⟩
      obtain ⟨rc, hrc⟩ : ∃ r, r = sum (lc.take n) := ⟨_, rfl⟩
      obtain ⟨rab, hrab⟩ : ∃ r, r = ra ^^^ rb := ⟨_, rfl⟩
      have hin : i = n := by omega
      have f1 : bits .xor .u32 (rv ra) (rv rb) = rv rab := by rw [rv_xor, hrab]
      have f2 : bits .xor .u32 (rv rab) (rv rc) = rv r1 := by
        rw [rv_xor, hrab, hr1, hL, hin, hra, hrb, hrc, sum_x3 _ _ _ (by simp; omega) (by simp; omega)]
      have hLl : L.length = n := by rw [hL, x3_length _ _ _ (by simp; omega) (by simp; omega), List.length_take]; omega
      have k1 : Hid (∀ N, Calls Tryd.prog 10 #[u8] (wr.drewN N) fun e w' => e = .returned (.int .u32 (rv r1)) ∧ ∃ m, w' = wr.drewN m) := fun N =>
        (sum_any u8 L (wr.drewN N) (HR.out.bys) (by omega) (HTr.out)).mono fun e w' ⟨h1, h2⟩ => ⟨by rw [h1, hr1], N, h2.symm⟩
      have k2 : Hid (∀ N, Calls Tryd.prog 10 #[.slice a n ca] (wr.drewN N) fun e w' => e = .returned (.int .u32 (rv ra)) ∧ ∃ m, w' = wr.drewN m) := fun N =>
        (sum_any _ _ (wr.drewN N) (HAr.out.take n (by omega)) (by simp; omega) (HTr.out)).mono fun e w' ⟨h1, h2⟩ => ⟨by rw [h1, hra], N, h2.symm⟩
      have k3 : Hid (∀ N, Calls Tryd.prog 10 #[.slice b n cb] (wr.drewN N) fun e w' => e = .returned (.int .u32 (rv rb)) ∧ ∃ m, w' = wr.drewN m) := fun N =>
        (sum_any _ _ (wr.drewN N) (HBr.out.take n (by omega)) (by simp; omega) (HTr.out)).mono fun e w' ⟨h1, h2⟩ => ⟨by rw [h1, hrb], N, h2.symm⟩
      have k4 : Hid (∀ N, Calls Tryd.prog 10 #[.slice c n cc] (wr.drewN N) fun e w' => e = .returned (.int .u32 (rv rc)) ∧ ∃ m, w' = wr.drewN m) := fun N =>
        (sum_any _ _ (wr.drewN N) (HCr.out.take n (by omega)) (by simp; omega) (HTr.out)).mono fun e w' ⟨h1, h2⟩ => ⟨by rw [h1, hrc], N, h2.symm⟩
      have s1 := slice_to a na ca n (by omega)
      have s2 := slice_to b nb cb n (by omega)
      have s3 := slice_to c nc cc n (by omega)
      clear hr1 hra hrb hrc hrab hL hLl hin lA lB lC
      go_wp2_with fail
      go_quiet (first | with_reducible exact k1.out _ | with_reducible exact k2.out _ | with_reducible exact k3.out _ | with_reducible exact k4.out _)
      go_wp2
      go_ret
      have hB := HBe.out
      exact ⟨rfl, ⟨hB.os, hB.tape, hB.output, hB.size, hB.block⟩⟩

theorem three_all (w : World) (ht : Tab w) (a : Option Addr) (na ca : Nat) (x : List Int) (hx : IsRow .u8 w a na ca x) (sx : ca * 1 ≤ 140737488351232) (b : Option Addr) (nb cb : Nat) (y : List Int) (hy : IsRow .u8 w b nb cb y) (_sy : cb * 1 ≤ 140737488351232)
    (c : Option Addr) (nc cc : Nat) (z : List Int) (hz : IsRow .u8 w c nc cc z) (_sz : cc * 1 ≤ 140737488351232) :
    Calls Tryd.prog 8 #[.slice a na ca, .slice b nb cb, .slice c nc cc] w fun e w' => e = .returned (.bool true) ∧ Below w.heap.size w w' := by
  obtain ⟨la, -, ba⟩ := hx.bys
  obtain ⟨lb, -, bb⟩ := hy.bys
  obtain ⟨lc, -, bc⟩ := hz.bys
  exact three_walk a b c na nb nc ca cb cc la lb lc w ba bb bc hx.le hy.le hz.le (by omega) ht
end Go.Proofs.YtkndaheonlnclaaDoor
