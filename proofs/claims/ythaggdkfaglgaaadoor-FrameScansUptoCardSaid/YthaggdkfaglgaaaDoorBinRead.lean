/- The reader of bytes: its inner readings, which give up by a panic. -/
import Derived.Test.YthaggdkfaglgaaaDoorBinRaw
import Derived.Test.YthaggdkfaglgaaaDoorQuit
import Derived.Test.YthaggdkfaglgaaaDoorReadMath
import Derived.BigQuiet
import Derived.Deep.QuietTactic
import Derived.Laws.CopyOwn
import Derived.Deep.RegionLaw
namespace Go.Proofs.YthaggdkfaglgaaaDoor
set_option maxRecDepth 20000
open Go.RowKit BinMath
variable {G : Nat}

/-- A reader in block R: it stands at place k of the bytes l; stuck by st. -/
def IsRd (w : World) (R G : Nat) (l : List UInt8) (k : Nat) (st : Int) : Prop :=
  ∃ b cap, w.heap[R]? = some (.cells #[.slice b l.length cap, .int .i64 (k : Int), .int .i64 st] 53 (0, 0)) ∧ k ≤ l.length ∧ l.length ≤ 140737488351232 ∧ (l.length ≤ cap ∧ cap ≤ maxLen ∧ G ≤ w.heap.size) ∧
    (b = none ∧ l = [] ∧ cap = 0 ∨ ∃ g, b = some ⟨g, 0, none⟩ ∧ g ≠ R ∧ g < G ∧ ∀ i (h : i < l.length), w.cell? ⟨g, i, none⟩ = some (bv l[i]))

theorem digs_code : ∀ (m : Nat) (first : Bool) (acc : Nat) (r : List UInt8) (c : Nat), digs m first acc r = .error c → c ≠ 0
  | 0, _, _, _, _, h => by simp [digs] at h
  | m + 1, first, acc, [], c, h => by simp [digs] at h; omega
  | m + 1, first, acc, x :: r, c, h => by
    unfold digs at h
    split at h
    · cases h; decide
    · exact digs_code m false _ r c h

theorem pNum_code {l : List UInt8} {c : Nat} (h : pNum l = .error c) : c ≠ 0 := by
  cases l with
  | nil => simp [pNum] at h; omega
  | cons k r =>
    simp only [pNum] at h
    split at h
    · cases h; decide
    · cases hd : digs k.toNat true 0 r with
      | error d => rw [hd] at h; simp at h; subst h; exact digs_code _ _ _ _ _ hd
      | ok m => rw [hd] at h; cases h

theorem pText_code {most : Nat} {l : List UInt8} {c : Nat} (h : pText most l = .error c) : c ≠ 0 := by
  unfold pText at h
  cases hn : pNum l with
  | error d => rw [hn] at h; simp at h; subst h; exact pNum_code hn
  | ok q =>
    rw [hn] at h
    simp only at h
    split at h
    · cases h; decide
    · split at h
      · cases h; decide
      · cases h

set_option maxHeartbeats 400000 in
theorem left_any (l : List UInt8) (k : Nat) (st : Int) (R : Nat) (w : World) (h : IsRd w R G l k st) :
    Calls Tryd.prog 17 #[.pointer (some ⟨R, 0, none⟩)] w fun e w' => e = .returned (.int .i64 ((l.length - k : Nat) : Int)) ∧ ∃ n, w' = w.drewN n := by
  obtain ⟨b, cap, hR, hk, hl, hcap, -⟩ := h
  have c0 : w.cell? ⟨R, 0, none⟩ = some (.slice b l.length cap) := by rw [cell_of_heap hR]; rfl
  have c1 : w.cell? ⟨R, 1, none⟩ = some (.int .i64 (k : Int)) := by rw [cell_of_heap hR]; rfl
  clear hR
  go_enter Tryd.func17, Tryd.ntmps17
  go_wp2
  go_quiet (fail)
  go_wp2
  go_ret
  refine ⟨congrArg Ending.returned (congrArg (Value.int IntKind.i64) ?_), _, rfl⟩
  omega

/-- A reader in a later world, its bytes where they were. -/
theorem IsRd.to {w w' : World} {R : Nat} {l : List UInt8} {k k' : Nat} {st st' : Int} (h : IsRd w R G l k st) (hsz : w.heap.size ≤ w'.heap.size) (hfar : ∀ g, g < G → g ≠ R → w'.heap[g]? = w.heap[g]?)
    (hR : ∀ b cap, w.heap[R]? = some (.cells #[.slice b l.length cap, .int .i64 (k : Int), .int .i64 st] 53 (0, 0)) → w'.heap[R]? = some (.cells #[.slice b l.length cap, .int .i64 (k' : Int), .int .i64 st'] 53 (0, 0))) (hk : k' ≤ l.length) : IsRd w' R G l k' st' := by
  obtain ⟨b, cap, hRw, hk0, hl, ⟨h1, h2, h3⟩, hb⟩ := h
  refine ⟨b, cap, hR b cap hRw, hk, hl, ⟨h1, h2, Nat.le_trans h3 hsz⟩, ?_⟩
  rcases hb with hb | ⟨g, e, hg, hgs, hc⟩
  · exact .inl hb
  · exact .inr ⟨g, e, hg, hgs, fun i hi => (World.cell?_of_block (hfar g hgs hg)).trans (hc i hi)⟩

theorem IsRd.drewN {w : World} {R : Nat} {l : List UInt8} {k : Nat} {st : Int} (h : IsRd w R G l k st) (n : Nat) : IsRd (w.drewN n) R G l k st := h

theorem IsRd.facts {w : World} {R : Nat} {l : List UInt8} {k : Nat} {st : Int} (h : IsRd w R G l k st) : R < w.heap.size ∧ k ≤ l.length ∧ l.length ≤ 140737488351232 ∧ G ≤ w.heap.size := by
  obtain ⟨b, cap, hRw, hk0, hl, ⟨_, _, h3⟩, _⟩ := h
  exact ⟨(Array.getElem?_eq_some_iff.1 hRw).1, hk0, hl, h3⟩

/-- The reader behind a store into its block. -/
theorem IsRd.step {w : World} {R : Nat} {l : List UInt8} {k : Nat} {st : Int} (h : IsRd w R G l k st) {k' : Nat} (hk : k' ≤ l.length) : IsRd (w.setCell ⟨R, 1, none⟩ (.int .i64 (k' : Int))) R G l k' st :=
  h.to (by simp [World.setCell]) (fun g _ hg => heap_set_other hg _) (fun b cap hR => by rw [heap_set_same hR]; rfl) hk

/-- Whatever else turns, as long as it is none of the blocks below G. -/
theorem IsRd.only {w w' : World} {R : Nat} {l : List UInt8} {k : Nat} {st : Int} {S : Nat → Prop} (h : IsRd w R G l k st) (ho : OnlyS S w w') (hS : ∀ b, b < G → ¬ S b) (hSR : ¬ S R) : IsRd w' R G l k st := by
  have hf := h.facts
  exact h.to ho.size (fun g hg _ => ho.block g (by omega) (hS g hg)) (fun b cap hR => by rw [ho.block R hf.1 hSR]; exact hR) hf.2.1

theorem IsRd.below {w w' : World} {R : Nat} {l : List UInt8} {k : Nat} {st : Int} (h : IsRd w R G l k st) (hb : Below w.heap.size w w') : IsRd w' R G l k st :=
  h.only (S := fun _ => False) (OnlyS.of_below hb fun _ hk _ => hk) (fun _ _ => id) id

set_option maxHeartbeats 400000 in
theorem next_none (l : List UInt8) (k : Nat) (R : Nat) (st : Int) (w : World) (h : IsRd w R G l k st) (hk : k = l.length) :
    Calls Tryd.prog 37 #[.pointer (some ⟨R, 0, none⟩)] w fun e w' => e = .panicked (gaveUp 2) ∧ ∃ n, w' = w.drewN n := by
  have hL := left_any l k st R w h
  rw [hk, Nat.sub_self] at hL
  go_enter Tryd.func37, Tryd.ntmps37
  go_wp2_with fail
  refine hL.mono ?_
  rintro e w1 ⟨rfl, n, rfl⟩
  go_wp2_with (go_at_call 38; refine (quit_bad _ (by decide) _).mono ?_; rintro e w2 ⟨rfl, rfl⟩)
  exact ⟨rfl, rfl, _, rfl⟩

set_option maxHeartbeats 400000 in
theorem next_some (l : List UInt8) (k : Nat) (R : Nat) (st : Int) (w : World) (h : IsRd w R G l k st) (hk : k < l.length) :
    Calls Tryd.prog 37 #[.pointer (some ⟨R, 0, none⟩)] w fun e w' => e = .returned (bv l[k]) ∧ IsRd w' R G l (k + 1) st ∧ Only R w w' := by
  have hL := left_any l k st R w h
  obtain ⟨m, hm⟩ : ∃ m, m + 1 = l.length - k := ⟨l.length - k - 1, by omega⟩
  rw [← hm] at hL
  have hne : (((m + 1 : Nat) : Int) == 0) = false := by simp; omega
  have hst := Lib.hid (h.step (k' := k + 1) (by omega))
  obtain ⟨b, cap, hR, hk0, hl, hcap, hb⟩ := h
  rcases hb with ⟨_, rfl, _⟩ | ⟨g, rfl, hg, hgs, hc⟩
  · simp at hk
  have c0 : w.cell? ⟨R, 0, none⟩ = some (.slice (some ⟨g, 0, none⟩) l.length cap) := by rw [cell_of_heap hR]; rfl
  have c1 : w.cell? ⟨R, 1, none⟩ = some (.int .i64 (k : Int)) := by rw [cell_of_heap hR]; rfl
  have f1 : w.frozen? ⟨R, 1, none⟩ = false := free_of_heap hR
  have cg : w.cell? ⟨g, k, none⟩ = some (bv l[k]) := hc k hk
  obtain ⟨y, hy⟩ : ∃ y, y = bv l[k] := ⟨_, rfl⟩
  rw [← hy] at cg ⊢
  have hkb : (k : Int) < (l.length : Int) := by omega
  obtain ⟨len, hlen⟩ : ∃ len, len = l.length := ⟨_, rfl⟩
  rw [← hlen] at c0 hkb
  have hll : len ≤ 140737488351232 := by omega
  clear hR hc hy hm hlen
  go_enter Tryd.func37, Tryd.ntmps37
  go_wp2_with fail
  refine hL.mono ?_
  rintro e w1 ⟨rfl, n, rfl⟩
  clear hL
  go_wp2
  go_quiet (fail)
  go_wp2
  go_ret
  refine ⟨rfl, ?_, ?_⟩
  · have e : ((k + 1 : Nat) : Int) = (k : Int) + 1 := by omega
    have h := hst.out
    rw [e] at h
    exact h.drewN _
  · exact ((Only.refl R w).drewN _).setR 1 _
/-- How an inner reading ends: with its value, or by giving up; where the reader then stands. -/
def NumEnd (G : Nat) (l : List UInt8) (k : Nat) (R : Nat) (st : Int) (w : World) (e : Ending) (w' : World) : Prop :=
  ∃ k', IsRd w' R G l k' st ∧ Only R w w' ∧ match pNum (l.drop k) with
    | .ok (n, u) => e = .returned (.int .u64 (n : Int)) ∧ k' = k + u
    | .error c => e = .panicked (gaveUp c)

/-- 'n<<8 | c'. -/
theorem shift_or (acc c i : Nat) (hi : i < 8) (ha : acc < 256 ^ i) (hc : c < 256) : bits BinOp.or IntKind.u64 (IntKind.u64.wrap ((acc : Int) * 256)) (c : Int) = ((acc * 256 + c : Nat) : Int) := by
  have h7 : 256 ^ i ≤ 256 ^ 7 := Nat.pow_le_pow_right (by decide) (by omega)
  have e7 : (256 : Nat) ^ 7 = 72057594037927936 := by decide
  rw [IntWalk.u64_in _ ⟨by omega, by omega⟩]
  rw [show (acc : Int) * 256 = ((acc * 256 : Nat) : Int) by omega, u64_or_nat _ _ (by omega) (by omega)]
  congr 1
  have := Nat.two_pow_add_eq_or_of_lt (i := 8) (b := c) (by omega) acc
  rw [show (2 : Nat) ^ 8 = 256 by decide, Nat.mul_comm] at this
  exact this.symm

theorem pNum_eq {l r : List UInt8} {c : UInt8} {y : Nat} (h : l = c :: r) (hy : y = c.toNat) (h8 : ¬ 8 < y) : pNum l = match digs y true 0 r with
    | .ok n => .ok (n, y + 1)
    | .error c => .error c := by
  subst h hy
  simp only [pNum, if_neg h8]
  cases digs c.toNat true 0 r <;> rfl

set_option maxHeartbeats 1000000 in
theorem number_any (l : List UInt8) (k : Nat) (R : Nat) (st : Int) (w : World) (h : IsRd w R G l k st) :
    Calls Tryd.prog 28 #[.pointer (some ⟨R, 0, none⟩)] w (NumEnd G l k R st w) := by
  have hk : k ≤ l.length := by obtain ⟨_, _, _, hk, _⟩ := h; exact hk
  by_cases hlt : k < l.length
  · have hN := next_some l k R st w h hlt
    have hdr : l.drop k = l[k] :: l.drop (k + 1) := by rw [List.drop_eq_getElem_cons hlt]
    unfold bv at hN
    obtain ⟨y, hy⟩ : ∃ y, y = l[k].toNat := ⟨_, rfl⟩
    have hyb : y < 256 := by rw [hy]; exact l[k].toNat_lt
    rw [← hy] at hN
    have HY := Lib.hid hy
    have HD := Lib.hid hdr
    clear hy hdr
    by_cases h8 : 8 < y
    · go_enter Tryd.func28, Tryd.ntmps28
      go_wp2_with fail
      refine hN.mono ?_
      rintro e w1 ⟨rfl, hr1, ho1⟩
      have HR := Lib.hid hr1
      have HO := Lib.hid ho1
      clear hr1 ho1 hN
      go_wp2_with (go_at_call 38; refine (quit_bad _ (by decide) _).mono ?_; rintro e w2 ⟨rfl, rfl⟩)
      refine ⟨rfl, k + 1, HR.out, HO.out, ?_⟩
      rw [HD.out, pNum, if_pos (by rw [← HY.out]; exact h8)]
      rfl
    · have h8' : decide ((8 : Int) < (y : Int)) = false := by simp; omega
      go_enter Tryd.func28, Tryd.ntmps28
      go_wp2_with fail
      refine hN.mono ?_
      rintro e w1 ⟨rfl, hr1, ho1⟩
      have HR := Lib.hid hr1
      have HO := Lib.hid ho1
      clear hr1 ho1 hN
      go_wp2_with fail
      clear h8'
      go_loopw [4, 14] (fun s4 s14 wr => ∃ i acc : Nat, i ≤ y ∧ s14 = .int .i64 (i : Int) ∧ s4 = .int .u64 (acc : Int) ∧ acc < 256 ^ i ∧ IsRd wr R G l (k + 1 + i) st ∧ Only R w wr ∧ digs (y - i) (i == 0) acc (l.drop (k + 1 + i)) = digs y true 0 (l.drop (k + 1))) (fun _ s14 _ => (y - intOf s14).toNat)
      case atStart => exact ⟨0, 0, Nat.zero_le _, rfl, rfl, by simp, HR.out, HO.out, rfl⟩
      case round =>
        obtain ⟨i, acc, hi, rfl, rfl, hacc, hrd, hon, heq⟩ := hrel
        have HA := Lib.hid hacc
        have HRd := Lib.hid hrd
        have HOn := Lib.hid hon
        have HE := Lib.hid heq
        have hNs := fun h => next_some l (k + 1 + i) R st wr hrd h
        have hNn := fun h => next_none l (k + 1 + i) R st wr hrd h
        have HNs := Lib.hid hNs
        have HNn := Lib.hid hNn
        clear hacc hrd hon heq hNs hNn
        by_cases hiy : i < y
        · by_cases hin : k + 1 + i < l.length
          · have hN := HNs.out hin
            unfold bv at hN
            obtain ⟨c, hc⟩ : ∃ c, c = l[k + 1 + i].toNat := ⟨_, rfl⟩
            have hcb : c < 256 := by rw [hc]; exact UInt8.toNat_lt _
            rw [← hc] at hN
            have HC := Lib.hid hc
            clear hc
            have hdr : l.drop (k + 1 + i) = l[k + 1 + i] :: l.drop (k + 1 + i + 1) := List.drop_eq_getElem_cons hin
            have HDr := Lib.hid hdr
            clear hdr
            go_wp2_with fail
            refine hN.mono ?_
            rintro e w2 ⟨rfl, hr2, ho2⟩
            have HR2 := Lib.hid hr2
            have HO2 := Lib.hid ho2
            clear hr2 ho2 hN
            have hdig : digs (y - i) (i == 0) acc (l.drop (k + 1 + i)) = if (i == 0) && c == 0 then .error 3 else digs (y - (i + 1)) false (acc * 256 + c) (l.drop (k + 1 + i + 1)) := by
              rw [show y - i = y - (i + 1) + 1 by omega, HDr.out, digs, HC.out]
            have HDg := Lib.hid hdig
            clear hdig
            by_cases h0 : i = 0
            · by_cases hc0 : c = 0
              · have e1 : ((i : Int) == 0) = true := by simp; omega
                have e2 : ((c : Int) == 0) = true := by simp; omega
                have H0 := Lib.hid h0
                have HC0 := Lib.hid hc0
                clear h0 hc0
                go_wp2_with (go_at_call 38; refine (quit_bad _ (by decide) _).mono ?_; rintro e w3 ⟨rfl, rfl⟩)
                refine ⟨rfl, k + 1 + i + 1, HR2.out, HOn.out.trans HO2.out, ?_⟩
                rw [pNum_eq HD.out HY.out h8, ← HE.out, HDg.out, if_pos (by rw [H0.out, HC0.out]; rfl)]
                rfl
              · have e1 : ((i : Int) == 0) = true := by simp; omega
                have e2 : ((c : Int) == 0) = false := by simp; omega
                have H0 := Lib.hid h0
                have HC0 := Lib.hid hc0
                clear h0 hc0
                go_wp2
                go_roundw
                case rel =>
                  refine ⟨i + 1, acc * 256 + c, by omega, by go_num, congrArg (Value.int IntKind.u64) (shift_or acc c i (by omega) HA.out hcb), ?_, HR2.out, HOn.out.trans HO2.out, ?_⟩
                  · have := HA.out; rw [Nat.pow_succ]; omega
                  · rw [← HE.out, HDg.out, if_neg (by simp; exact fun _ => HC0.out)]; rfl
                case measure => simp [intOf]; omega
            · have e1 : ((i : Int) == 0) = false := by simp; omega
              have H0 := Lib.hid h0
              clear h0
              go_wp2
              go_roundw
              case rel =>
                refine ⟨i + 1, acc * 256 + c, by omega, by go_num, congrArg (Value.int IntKind.u64) (shift_or acc c i (by omega) HA.out hcb), ?_, HR2.out, HOn.out.trans HO2.out, ?_⟩
                · have := HA.out; rw [Nat.pow_succ]; omega
                · rw [← HE.out, HDg.out, if_neg (by simp; exact fun h => absurd h H0.out)]; rfl
              case measure => simp [intOf]; omega
          · have hN := HNn.out (by have := HRd.out; obtain ⟨_, _, _, hh, _⟩ := this; omega)
            go_wp2_with fail
            refine hN.mono ?_
            rintro e w2 ⟨rfl, n, rfl⟩
            refine ⟨rfl, k + 1 + i, HRd.out.drewN n, HOn.out.drewN n, ?_⟩
            rw [pNum_eq HD.out HY.out h8, ← HE.out, List.drop_eq_nil_of_le (by omega), show y - i = y - (i + 1) + 1 by omega, digs]
            rfl
        · go_wp2
          go_ret
          refine ⟨k + 1 + i, HRd.out, HOn.out, ?_⟩
          rw [pNum_eq HD.out HY.out h8, ← HE.out, show y - i = 0 by omega, digs]
          exact ⟨rfl, by omega⟩
  · have hN := next_none l k R st w h (by omega)
    go_enter Tryd.func28, Tryd.ntmps28
    go_wp2_with fail
    refine hN.mono ?_
    rintro e w1 ⟨rfl, n, rfl⟩
    refine ⟨rfl, k, h.drewN n, (Only.refl R w).drewN n, ?_⟩
    rw [List.drop_eq_nil_of_le (by omega)]
    rfl

/-- How the reading of a text ends. -/
def TextEnd (G : Nat) (l : List UInt8) (k : Nat) (R : Nat) (st : Int) (most : Int) (w : World) (e : Ending) (w' : World) : Prop :=
  ∃ k', IsRd w' R G l k' st ∧ Only R w w' ∧ match pText most.toNat (l.drop k) with
    | .ok (t, u) => (∃ v, e = .returned v ∧ Row w' w.heap.size v t) ∧ k' = k + u
    | .error c => e = .panicked (gaveUp c)

theorem text_close {l : List UInt8} {k R : Nat} {st most : Int} {w w1 w6 : World} {n at0 u' : Nat} {cs : List UInt8} {cur : Array Value} (HR : IsRd w1 R G l at0 st) (HO : Only R w w1) (hb6 : Below w1.heap.size w1 w6)
    (hg6 : w6.heap[w1.heap.size]? = some (.cells (splice cur.toList 0 (cs.map bv)).toArray 5 (0, 0))) (hcs : cur.size = n) (hcl : cs.length = n) (hp : pText most.toNat (l.drop k) = .ok (cs, u')) (hu : at0 + n = k + u') (hfit : at0 + n ≤ l.length) :
    TextEnd G l k R st most w (.returned (.slice (some ⟨w1.heap.size, 0, none⟩) n n)) (w6.setCell ⟨R, 1, none⟩ (.int .i64 ((at0 : Int) + (n : Int)))) := by
  have hRs : R < w1.heap.size := by
    obtain ⟨b, cap, hR, _⟩ := HR
    exact (Array.getElem?_eq_some_iff.1 hR).1
  have hll : l.length ≤ 140737488351232 := by obtain ⟨b, cap, _, _, hl, _⟩ := HR; exact hl
  have e1 : ((at0 : Int) + (n : Int)) = ((at0 + n : Nat) : Int) := by omega
  refine ⟨at0 + n, ?_, ?_, ?_⟩
  · rw [e1]; exact (HR.below hb6).step hfit
  · exact (HO.trans (Only.of_below hb6)).setR 1 _
  · rw [hp]
    refine ⟨⟨_, rfl, ?_⟩, hu⟩
    unfold Row
    rw [hcl]
    refine ⟨by simp [hcl], .inr ⟨w1.heap.size, n, (splice cur.toList 0 (cs.map bv)).toArray, rfl, HO.size, ?_, Nat.le_refl _, by unfold maxLen; omega, ?_, ?_⟩⟩
    · rw [Below.heap_setCell _ _ _ _ (by simp; omega)]; exact hg6
    · simp [splice, hcl, hcs]
    · simp [splice, hcl]

end Go.Proofs.YthaggdkfaglgaaaDoor
