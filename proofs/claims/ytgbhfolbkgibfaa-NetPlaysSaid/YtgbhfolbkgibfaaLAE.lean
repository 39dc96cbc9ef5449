/- Joined: BinRead, BinAttempt. -/
import Derived.Test.YtgbhfolbkgibfaaLAD
import Derived.Test.YtgbhfolbkgibfaaLAA
import Derived.BigQuiet
import Derived.Deep.QuietTactic
import Derived.Laws.CopyOwn
import Derived.Deep.RegionLaw
/- The reader of bytes: its inner readings, which give up by a panic. -/
namespace Go.Proofs.Ytgbhfolbkgibfaa
set_option maxRecDepth 20000
open Go.RowKit BinMath
variable {G : Nat}

/-- A reader in block R: it stands at place k of the bytes l; stuck by st. -/
def IsRd (w : World) (R G : Nat) (l : List UInt8) (k : Nat) (st : Int) : Prop :=
  ∃ b cap, w.heap[R]? = some (.cells #[.slice b l.length cap, .int .i64 (k : Int), .int .i64 st] 109 (0, 0)) ∧ k ≤ l.length ∧ l.length ≤ 140737488351232 ∧ (l.length ≤ cap ∧ cap ≤ maxLen ∧ G ≤ w.heap.size) ∧
    (b = none ∧ l = [] ∧ cap = 0 ∨ ∃ g, b = some ⟨g, 0, none⟩ ∧ g ≠ R ∧ g < G ∧ ∀ i (h : i < l.length), w.cell? ⟨g, i, none⟩ = some (bv l[i]))

theorem digs_code : ∀ (m : Nat) (first : Bool) (acc : Nat) (r : List UInt8) (c : Nat), digs m first acc r = .error c → c ≠ 0
  | 0, _, _, _, _, h => by simp [digs] at h
  | m + 1, first, acc, [], c, h => by simp [digs] at h; omega
  | m + 1, first, acc, x :: r, c, h => by
    unfold digs at h
    split at h
    · cases h; decide
    · exact digs_code m false _ r c h

theorem pNum_code {l : List UInt8} {c : Nat} (h : pNum l = .error c) : c ≠ 0 := by
  cases l with
  | nil => simp [pNum] at h; omega
  | cons k r =>
    simp only [pNum] at h
    split at h
    · cases h; decide
    · cases hd : digs k.toNat true 0 r with
      | error d => rw [hd] at h; simp at h; subst h; exact digs_code _ _ _ _ _ hd
      | ok m => rw [hd] at h; cases h

theorem pText_code {most : Nat} {l : List UInt8} {c : Nat} (h : pText most l = .error c) : c ≠ 0 := by
  unfold pText at h
  cases hn : pNum l with
  | error d => rw [hn] at h; simp at h; subst h; exact pNum_code hn
  | ok q =>
    rw [hn] at h
    simp only at h
    split at h
    · cases h; decide
    · split at h
      · cases h; decide
      · cases h

set_option maxHeartbeats 400000 in
theorem left_any (l : List UInt8) (k : Nat) (st : Int) (R : Nat) (w : World) (h : IsRd w R G l k st) :
    Calls Try.prog 60 #[.pointer (some ⟨R, 0, none⟩)] w fun e w' => e = .returned (.int .i64 ((l.length - k : Nat) : Int)) ∧ ∃ n, w' = w.drewN n := by
  obtain ⟨b, cap, hR, hk, hl, hcap, -⟩ := h
  have c0 : w.cell? ⟨R, 0, none⟩ = some (.slice b l.length cap) := by rw [cell_of_heap hR]; rfl
  have c1 : w.cell? ⟨R, 1, none⟩ = some (.int .i64 (k : Int)) := by rw [cell_of_heap hR]; rfl
  clear hR
  go_enter Try.func60, Try.ntmps60
  go_wp2
  go_quiet (fail)
  go_wp2
  go_ret
  refine ⟨congrArg Ending.returned (congrArg (Value.int IntKind.i64) ?_), _, rfl⟩
  omega

/-- A reader in a later world, its bytes where they were. -/
theorem IsRd.to {w w' : World} {R : Nat} {l : List UInt8} {k k' : Nat} {st st' : Int} (h : IsRd w R G l k st) (hsz : w.heap.size ≤ w'.heap.size) (hfar : ∀ g, g < G → g ≠ R → w'.heap[g]? = w.heap[g]?)
    (hR : ∀ b cap, w.heap[R]? = some (.cells #[.slice b l.length cap, .int .i64 (k : Int), .int .i64 st] 109 (0, 0)) → w'.heap[R]? = some (.cells #[.slice b l.length cap, .int .i64 (k' : Int), .int .i64 st'] 109 (0, 0))) (hk : k' ≤ l.length) : IsRd w' R G l k' st' := by
  obtain ⟨b, cap, hRw, hk0, hl, ⟨h1, h2, h3⟩, hb⟩ := h
  refine ⟨b, cap, hR b cap hRw, hk, hl, ⟨h1, h2, Nat.le_trans h3 hsz⟩, ?_⟩
  rcases hb with hb | ⟨g, e, hg, hgs, hc⟩
  · exact .inl hb
  · exact .inr ⟨g, e, hg, hgs, fun i hi => (World.cell?_of_block (hfar g hgs hg)).trans (hc i hi)⟩

theorem IsRd.drewN {w : World} {R : Nat} {l : List UInt8} {k : Nat} {st : Int} (h : IsRd w R G l k st) (n : Nat) : IsRd (w.drewN n) R G l k st := h

theorem IsRd.facts {w : World} {R : Nat} {l : List UInt8} {k : Nat} {st : Int} (h : IsRd w R G l k st) : R < w.heap.size ∧ k ≤ l.length ∧ l.length ≤ 140737488351232 ∧ G ≤ w.heap.size := by
  obtain ⟨b, cap, hRw, hk0, hl, ⟨_, _, h3⟩, _⟩ := h
  exact ⟨(Array.getElem?_eq_some_iff.1 hRw).1, hk0, hl, h3⟩

/-- The reader behind a store into its block. -/
theorem IsRd.step {w : World} {R : Nat} {l : List UInt8} {k : Nat} {st : Int} (h : IsRd w R G l k st) {k' : Nat} (hk : k' ≤ l.length) : IsRd (w.setCell ⟨R, 1, none⟩ (.int .i64 (k' : Int))) R G l k' st :=
  h.to (by simp [World.setCell]) (fun g _ hg => heap_set_other hg _) (fun b cap hR => by rw [heap_set_same hR]; rfl) hk

/-- Whatever else turns, as long as it is none of the blocks below G. -/
theorem IsRd.only {w w' : World} {R : Nat} {l : List UInt8} {k : Nat} {st : Int} {S : Nat → Prop} (h : IsRd w R G l k st) (ho : OnlyS S w w') (hS : ∀ b, b < G → ¬ S b) (hSR : ¬ S R) : IsRd w' R G l k st := by
  have hf := h.facts
  exact h.to ho.size (fun g hg _ => ho.block g (by omega) (hS g hg)) (fun b cap hR => by rw [ho.block R hf.1 hSR]; exact hR) hf.2.1

theorem IsRd.below {w w' : World} {R : Nat} {l : List UInt8} {k : Nat} {st : Int} (h : IsRd w R G l k st) (hb : Below w.heap.size w w') : IsRd w' R G l k st :=
  h.only (S := fun _ => False) (OnlyS.of_below hb fun _ hk _ => hk) (fun _ _ => id) id

set_option maxHeartbeats 400000 in
theorem next_none (l : List UInt8) (k : Nat) (R : Nat) (st : Int) (w : World) (h : IsRd w R G l k st) (hk : k = l.length) :
    Calls Try.prog 109 #[.pointer (some ⟨R, 0, none⟩)] w fun e w' => e = .panicked (gaveUp 2) ∧ ∃ n, w' = w.drewN n := by
  have hL := left_any l k st R w h
  rw [hk, Nat.sub_self] at hL
  go_enter Try.func109, Try.ntmps109
  go_wp2_with fail
  refine hL.mono ?_
  rintro e w1 ⟨rfl, n, rfl⟩
  go_wp2_with (go_at_call 44; refine (quit_bad _ (by decide) _).mono ?_; rintro e w2 ⟨rfl, rfl⟩)
  exact ⟨rfl, rfl, _, rfl⟩

set_option maxHeartbeats 400000 in
theorem next_some (l : List UInt8) (k : Nat) (R : Nat) (st : Int) (w : World) (h : IsRd w R G l k st) (hk : k < l.length) :
    Calls Try.prog 109 #[.pointer (some ⟨R, 0, none⟩)] w fun e w' => e = .returned (bv l[k]) ∧ IsRd w' R G l (k + 1) st ∧ Only R w w' := by
  have hL := left_any l k st R w h
  obtain ⟨m, hm⟩ : ∃ m, m + 1 = l.length - k := ⟨l.length - k - 1, by omega⟩
  rw [← hm] at hL
  have hne : (((m + 1 : Nat) : Int) == 0) = false := by simp; omega
  have hst := Lib.hid (h.step (k' := k + 1) (by omega))
  obtain ⟨b, cap, hR, hk0, hl, hcap, hb⟩ := h
  rcases hb with ⟨_, rfl, _⟩ | ⟨g, rfl, hg, hgs, hc⟩
  · simp at hk
  have c0 : w.cell? ⟨R, 0, none⟩ = some (.slice (some ⟨g, 0, none⟩) l.length cap) := by rw [cell_of_heap hR]; rfl
  have c1 : w.cell? ⟨R, 1, none⟩ = some (.int .i64 (k : Int)) := by rw [cell_of_heap hR]; rfl
  have f1 : w.frozen? ⟨R, 1, none⟩ = false := free_of_heap hR
  have cg : w.cell? ⟨g, k, none⟩ = some (bv l[k]) := hc k hk
  obtain ⟨y, hy⟩ : ∃ y, y = bv l[k] := ⟨_, rfl⟩
  rw [← hy] at cg ⊢
  have hkb : (k : Int) < (l.length : Int) := by omega
  obtain ⟨len, hlen⟩ : ∃ len, len = l.length := ⟨_, rfl⟩
  rw [← hlen] at c0 hkb
  have hll : len ≤ 140737488351232 := by omega
  clear hR hc hy hm hlen
  go_enter Try.func109, Try.ntmps109
  go_wp2_with fail
  refine hL.mono ?_
  rintro e w1 ⟨rfl, n, rfl⟩
  clear hL
  go_wp2
  go_quiet (fail)
  go_wp2
  go_ret
  refine ⟨rfl, ?_, ?_⟩
  · have e : ((k + 1 : Nat) : Int) = (k : Int) + 1 := by omega
    have h := hst.out
    rw [e] at h
    exact h.drewN _
  · exact ((Only.refl R w).drewN _).setR 1 _
/-- How an inner reading ends: with its value, or by giving up; where the reader then stands. -/
def NumEnd (G : Nat) (l : List UInt8) (k : Nat) (R : Nat) (st : Int) (w : World) (e : Ending) (w' : World) : Prop :=
  ∃ k', IsRd w' R G l k' st ∧ Only R w w' ∧ match pNum (l.drop k) with
    | .ok (n, u) => e = .returned (.int .u64 (n : Int)) ∧ k' = k + u
    | .error c => e = .panicked (gaveUp c)

/-- 'n<<8 | c'. -/
theorem shift_or (acc c i : Nat) (hi : i < 8) (ha : acc < 256 ^ i) (hc : c < 256) : bits BinOp.or IntKind.u64 (IntKind.u64.wrap ((acc : Int) * 256)) (c : Int) = ((acc * 256 + c : Nat) : Int) := by
  have h7 : 256 ^ i ≤ 256 ^ 7 := Nat.pow_le_pow_right (by decide) (by omega)
  have e7 : (256 : Nat) ^ 7 = 72057594037927936 := by decide
  rw [IntWalk.u64_in _ ⟨by omega, by omega⟩]
  rw [show (acc : Int) * 256 = ((acc * 256 : Nat) : Int) by omega, u64_or_nat _ _ (by omega) (by omega)]
  congr 1
  have := Nat.two_pow_add_eq_or_of_lt (i := 8) (b := c) (by omega) acc
  rw [show (2 : Nat) ^ 8 = 256 by decide, Nat.mul_comm] at this
  exact this.symm

theorem pNum_eq {l r : List UInt8} {c : UInt8} {y : Nat} (h : l = c :: r) (hy : y = c.toNat) (h8 : ¬ 8 < y) : pNum l = match digs y true 0 r with
    | .ok n => .ok (n, y + 1)
    | .error c => .error c := by
  subst h hy
  simp only [pNum, if_neg h8]
  cases digs c.toNat true 0 r <;> rfl

set_option maxHeartbeats 1000000 in
theorem number_any (l : List UInt8) (k : Nat) (R : Nat) (st : Int) (w : World) (h : IsRd w R G l k st) :
    Calls Try.prog 107 #[.pointer (some ⟨R, 0, none⟩)] w (NumEnd G l k R st w) := by
  have hk : k ≤ l.length := by obtain ⟨_, _, _, hk, _⟩ := h; exact hk
  by_cases hlt : k < l.length
  · have hN := next_some l k R st w h hlt
    have hdr : l.drop k = l[k] :: l.drop (k + 1) := by rw [List.drop_eq_getElem_cons hlt]
    unfold bv at hN
    obtain ⟨y, hy⟩ : ∃ y, y = l[k].toNat := ⟨_, rfl⟩
    have hyb : y < 256 := by rw [hy]; exact l[k].toNat_lt
    rw [← hy] at hN
    have HY := Lib.hid hy
    have HD := Lib.hid hdr
    clear hy hdr
    by_cases h8 : 8 < y
    · go_enter Try.func107, Try.ntmps107
      go_wp2_with fail
      refine hN.mono ?_
      rintro e w1 ⟨rfl, hr1, ho1⟩
      have HR := Lib.hid hr1
      have HO := Lib.hid ho1
      clear hr1 ho1 hN
      go_wp2_with (go_at_call 44; refine (quit_bad _ (by decide) _).mono ?_; rintro e w2 ⟨rfl, rfl⟩)
      refine ⟨rfl, k + 1, HR.out, HO.out, ?_⟩
      rw [HD.out, pNum, if_pos (by rw [← HY.out]; exact h8)]
      rfl
    · have h8' : decide ((8 : Int) < (y : Int)) = false := by simp; omega
      go_enter Try.func107, Try.ntmps107
      go_wp2_with fail
      refine hN.mono ?_
      rintro e w1 ⟨rfl, hr1, ho1⟩
      have HR := Lib.hid hr1
      have HO := Lib.hid ho1
      clear hr1 ho1 hN
      go_wp2_with fail
      clear h8'
      go_loopw [4, 14] (fun s4 s14 wr => ∃ i acc : Nat, i ≤ y ∧ s14 = .int .i64 (i : Int) ∧ s4 = .int .u64 (acc : Int) ∧ acc < 256 ^ i ∧ IsRd wr R G l (k + 1 + i) st ∧ Only R w wr ∧ digs (y - i) (i == 0) acc (l.drop (k + 1 + i)) = digs y true 0 (l.drop (k + 1))) (fun _ s14 _ => (y - intOf s14).toNat)
      case atStart => exact ⟨0, 0, Nat.zero_le _, rfl, rfl, by simp, HR.out, HO.out, rfl⟩
      case round =>
        obtain ⟨i, acc, hi, rfl, rfl, hacc, hrd, hon, heq⟩ := hrel
        have HA := Lib.hid hacc
        have HRd := Lib.hid hrd
        have HOn := Lib.hid hon
        have HE := Lib.hid heq
        have hNs := fun h => next_some l (k + 1 + i) R st wr hrd h
        have hNn := fun h => next_none l (k + 1 + i) R st wr hrd h
        have HNs := Lib.hid hNs
        have HNn := Lib.hid hNn
        clear hacc hrd hon heq hNs hNn
        by_cases hiy : i < y
        · by_cases hin : k + 1 + i < l.length
          · have hN := HNs.out hin
            unfold bv at hN
            obtain ⟨c, hc⟩ : ∃ c, c = l[k + 1 + i].toNat := ⟨_, rfl⟩
            have hcb : c < 256 := by rw [hc]; exact UInt8.toNat_lt _
            rw [← hc] at hN
            have HC := Lib.hid hc
            clear hc
            have hdr : l.drop (k + 1 + i) = l[k + 1 + i] :: l.drop (k + 1 + i + 1) := List.drop_eq_getElem_cons hin
            have HDr := Lib.hid hdr
            clear hdr
            go_wp2_with fail
            refine hN.mono ?_
            rintro e w2 ⟨rfl, hr2, ho2⟩
            have HR2 := Lib.hid hr2
            have HO2 := Lib.hid ho2
            clear hr2 ho2 hN
            have hdig : digs (y - i) (i == 0) acc (l.drop (k + 1 + i)) = if (i == 0) && c == 0 then .error 3 else digs (y - (i + 1)) false (acc * 256 + c) (l.drop (k + 1 + i + 1)) := by
              rw [show y - i = y - (i + 1) + 1 by omega, HDr.out, digs, HC.out]
            have HDg := Lib.hid hdig
            clear hdig
            by_cases h0 : i = 0
            · by_cases hc0 : c = 0
              · have e1 : ((i : Int) == 0) = true := by simp; omega
                have e2 : ((c : Int) == 0) = true := by simp; omega
                have H0 := Lib.hid h0
                have HC0 := Lib.hid hc0
                clear h0 hc0
                go_wp2_with (go_at_call 44; refine (quit_bad _ (by decide) _).mono ?_; rintro e w3 ⟨rfl, rfl⟩)
                refine ⟨rfl, k + 1 + i + 1, HR2.out, HOn.out.trans HO2.out, ?_⟩
                rw [pNum_eq HD.out HY.out h8, ← HE.out, HDg.out, if_pos (by rw [H0.out, HC0.out]; rfl)]
                rfl
              · have e1 : ((i : Int) == 0) = true := by simp; omega
                have e2 : ((c : Int) == 0) = false := by simp; omega
                have H0 := Lib.hid h0
                have HC0 := Lib.hid hc0
                clear h0 hc0
                go_wp2
                go_roundw
                case rel =>
                  refine ⟨i + 1, acc * 256 + c, by omega, by go_num, congrArg (Value.int IntKind.u64) (shift_or acc c i (by omega) HA.out hcb), ?_, HR2.out, HOn.out.trans HO2.out, ?_⟩
                  · have := HA.out; rw [Nat.pow_succ]; omega
                  · rw [← HE.out, HDg.out, if_neg (by simp; exact fun _ => HC0.out)]; rfl
                case measure => simp [intOf]; omega
            · have e1 : ((i : Int) == 0) = false := by simp; omega
              have H0 := Lib.hid h0
              clear h0
              go_wp2
              go_roundw
              case rel =>
                refine ⟨i + 1, acc * 256 + c, by omega, by go_num, congrArg (Value.int IntKind.u64) (shift_or acc c i (by omega) HA.out hcb), ?_, HR2.out, HOn.out.trans HO2.out, ?_⟩
                · have := HA.out; rw [Nat.pow_succ]; omega
                · rw [← HE.out, HDg.out, if_neg (by simp; exact fun h => absurd h H0.out)]; rfl
              case measure => simp [intOf]; omega
          · have hN := HNn.out (by have := HRd.out; obtain ⟨_, _, _, hh, _⟩ := this; omega)
            go_wp2_with fail
            refine hN.mono ?_
            rintro e w2 ⟨rfl, n, rfl⟩
            refine ⟨rfl, k + 1 + i, HRd.out.drewN n, HOn.out.drewN n, ?_⟩
            rw [pNum_eq HD.out HY.out h8, ← HE.out, List.drop_eq_nil_of_le (by omega), show y - i = y - (i + 1) + 1 by omega, digs]
            rfl
        · go_wp2
          go_ret
          refine ⟨k + 1 + i, HRd.out, HOn.out, ?_⟩
          rw [pNum_eq HD.out HY.out h8, ← HE.out, show y - i = 0 by omega, digs]
          exact ⟨rfl, by omega⟩
  · have hN := next_none l k R st w h (by omega)
    go_enter Try.func107, Try.ntmps107
    go_wp2_with fail
    refine hN.mono ?_
    rintro e w1 ⟨rfl, n, rfl⟩
    refine ⟨rfl, k, h.drewN n, (Only.refl R w).drewN n, ?_⟩
    rw [List.drop_eq_nil_of_le (by omega)]
    rfl

/-- How the reading of a text ends. -/
def TextEnd (G : Nat) (l : List UInt8) (k : Nat) (R : Nat) (st : Int) (most : Int) (w : World) (e : Ending) (w' : World) : Prop :=
  ∃ k', IsRd w' R G l k' st ∧ Only R w w' ∧ match pText most.toNat (l.drop k) with
    | .ok (t, u) => (∃ v, e = .returned v ∧ Row w' w.heap.size v t) ∧ k' = k + u
    | .error c => e = .panicked (gaveUp c)

theorem text_close {l : List UInt8} {k R : Nat} {st most : Int} {w w1 w6 : World} {n at0 u' : Nat} {cs : List UInt8} {cur : Array Value} (HR : IsRd w1 R G l at0 st) (HO : Only R w w1) (hb6 : Below w1.heap.size w1 w6)
    (hg6 : w6.heap[w1.heap.size]? = some (.cells (splice cur.toList 0 (cs.map bv)).toArray 5 (0, 0))) (hcs : cur.size = n) (hcl : cs.length = n) (hp : pText most.toNat (l.drop k) = .ok (cs, u')) (hu : at0 + n = k + u') (hfit : at0 + n ≤ l.length) :
    TextEnd G l k R st most w (.returned (.slice (some ⟨w1.heap.size, 0, none⟩) n n)) (w6.setCell ⟨R, 1, none⟩ (.int .i64 ((at0 : Int) + (n : Int)))) := by
  have hRs : R < w1.heap.size := by
    obtain ⟨b, cap, hR, _⟩ := HR
    exact (Array.getElem?_eq_some_iff.1 hR).1
  have hll : l.length ≤ 140737488351232 := by obtain ⟨b, cap, _, _, hl, _⟩ := HR; exact hl
  have e1 : ((at0 : Int) + (n : Int)) = ((at0 + n : Nat) : Int) := by omega
  refine ⟨at0 + n, ?_, ?_, ?_⟩
  · rw [e1]; exact (HR.below hb6).step hfit
  · exact (HO.trans (Only.of_below hb6)).setR 1 _
  · rw [hp]
    refine ⟨⟨_, rfl, ?_⟩, hu⟩
    unfold Row
    rw [hcl]
    refine ⟨by simp [hcl], .inr ⟨w1.heap.size, n, (splice cur.toList 0 (cs.map bv)).toArray, rfl, HO.size, ?_, Nat.le_refl _, by unfold maxLen; omega, ?_, ?_⟩⟩
    · rw [Below.heap_setCell _ _ _ _ (by simp; omega)]; exact hg6
    · simp [splice, hcl, hcs]
    · simp [splice, hcl]

set_option maxHeartbeats 1000000 in
theorem text_any (l : List UInt8) (k : Nat) (R : Nat) (st most : Int) (w : World) (h : IsRd w R G l k st) (hm : -9223372036854775808 ≤ most ∧ most ≤ 9223372036854775807) :
    Calls Try.prog 111 #[.pointer (some ⟨R, 0, none⟩), .int .i64 most] w (TextEnd G l k R st most w) := by
  have hN := number_any l k R st w h
  unfold NumEnd at hN
  cases hp : pNum (l.drop k) with
  | error c =>
    rw [hp] at hN
    go_enter Try.func111, Try.ntmps111
    go_wp2_with fail
    refine hN.mono ?_
    rintro e w1 ⟨k', h1, h2, rfl⟩
    exact ⟨rfl, k', h1, h2, by simp only [pText, hp]⟩
  | ok p =>
    obtain ⟨n, u⟩ := p
    rw [hp] at hN
    have HP := Lib.hid hp
    have hnb := (pNum_used hp).2.1
    have hub := (pNum_used hp).1
    clear hp
    rw [List.length_drop] at hub
    obtain ⟨mm, hmm⟩ : ∃ mm : Nat, mm = most.toNat := ⟨_, rfl⟩
    have hmb : mm ≤ 9223372036854775807 := by omega
    have hmax : max most 0 = (mm : Int) := by omega
    have HM := Lib.hid hmm
    clear hmm hm
    go_enter Try.func111, Try.ntmps111
    go_wp2_with fail
    refine hN.mono ?_
    rintro e w1 ⟨k', h1, h2, rfl, rfl⟩
    have HR := Lib.hid h1
    have HO := Lib.hid h2
    have hL := left_any l (k + u) st R w1 h1
    have HL := Lib.hid hL
    clear h1 h2 hN hL
    by_cases hmn : mm < n
    · go_wp2_with (go_at_call 44; refine (quit_bad _ (by decide) _).mono ?_; rintro e w3 ⟨rfl, rfl⟩)
      refine ⟨rfl, k + u, HR.out, HO.out, ?_⟩
      simp only [pText, HP.out, ← HM.out, if_pos hmn]
      rfl
    · by_cases hln : l.length - (k + u) < n
      · go_wp2_with (go_at_call 60; refine HL.out.mono ?_; rintro e w3 ⟨rfl, q, rfl⟩)
        go_wp2_with (go_at_call 44; refine (quit_bad _ (by decide) _).mono ?_; rintro e w3 ⟨rfl, rfl⟩)
        refine ⟨rfl, k + u, HR.out.drewN q, HO.out.drewN q, ?_⟩
        simp only [pText, HP.out, ← HM.out, if_neg hmn]
        rw [if_pos (by rw [List.length_drop]; omega)]
        rfl
      · obtain ⟨i0, hi, hz0, hz1, hz2⟩ := info_parts info_byte
        have hR1 := HR.out
        obtain ⟨b, cap, hRh, hkl, hll, ⟨hlc, hcm, hGs⟩, hb⟩ := hR1
        have hcm' : cap ≤ 9223372036854775807 := by unfold maxLen at hcm; exact hcm
        have c0 : w1.cell? ⟨R, 0, none⟩ = some (.slice b l.length cap) := by rw [cell_of_heap hRh]; rfl
        have c1 : w1.cell? ⟨R, 1, none⟩ = some (.int .i64 ((k + u : Nat) : Int)) := by rw [cell_of_heap hRh]; rfl
        have f1 : w1.frozen? ⟨R, 1, none⟩ = false := free_of_heap hRh
        have hRs : R < w1.heap.size := (Array.getElem?_eq_some_iff.1 hRh).1
        obtain ⟨at0, hat⟩ : ∃ at0, at0 = k + u := ⟨_, rfl⟩
        rw [← hat] at c1 hln hkl
        obtain ⟨len, hlen⟩ : ∃ len, len = l.length := ⟨_, rfl⟩
        rw [← hlen] at c0 hln hkl hll hlc
        have HRh := Lib.hid hRh
        have Hb := Lib.hid hb
        have HAt := Lib.hid hat
        have HLen := Lib.hid hlen
        rw [← hat, ← hlen] at HL
        clear hRh hb hat hlen hcm hub
        go_wp2_with (first | (go_at_call 60; refine HL.out.mono ?_; rintro e w3 ⟨rfl, q, rfl⟩) | (at_make; refine wpList_make_full _ rfl _ _ 34 rfl w1.heap.size 5 i0 (.int .u8 0) 1 Try.underlying34 hi hz0 hz1 _ _ _ _ n rfl rfl rfl rfl (by rw [hz2]; omega) (by unfold maxLen; omega) (by simp) ?_; intro w4 hown hgrow))
        have hb4 : Below w1.heap.size w1 w4 := Below.grown (B := w1.heap.size) (w := w1.drewN q) ⟨rfl, rfl, rfl, Nat.le_refl _, fun _ _ => rfl⟩ hgrow (Nat.le_refl _) (by simp)
        rcases hown.2 with ⟨h0, _⟩ | ⟨T, cap0, cur, hT, hBT, hg4, hnc, hcm0, hcs, htk⟩
        · cases h0
        obtain ⟨rfl, rfl⟩ : w1.heap.size = T ∧ n = cap0 := by simpa using hT
        have d0 : w4.cell? ⟨R, 0, none⟩ = some (.slice b len cap) := by rw [hb4.cell (p := ⟨R, 0, none⟩) hRs]; exact c0
        have d1 : w4.cell? ⟨R, 1, none⟩ = some (.int .i64 (at0 : Int)) := by rw [hb4.cell (p := ⟨R, 1, none⟩) hRs]; exact c1
        have g1 : w4.frozen? ⟨R, 1, none⟩ = false := by rw [hb4.frozen (p := ⟨R, 1, none⟩) hRs]; exact f1
        have HG4 := Lib.hid hg4
        have HB4 := Lib.hid hb4
        have HCs := Lib.hid hcs
        clear hown hgrow hT hBT hg4 hnc hcm0 hcs htk hb4
        obtain ⟨cs, hcsl⟩ : ∃ cs : List UInt8, cs = (l.drop at0).take n := ⟨_, rfl⟩
        have hcl : cs.length = n := by rw [hcsl, List.length_take, List.length_drop, ← HLen.out]; omega
        have hpos : ∀ W : World, Below w1.heap.size w1 W → 0 < (cs.map bv).length → some (⟨w1.heap.size, 0, none⟩ : Addr) = some ⟨w1.heap.size, 0, none⟩ ∧ ∃ ad, (if cap = at0 then b else b.map (fun x => x.add at0)) = some ad ∧ ∀ j v, (cs.map bv)[j]? = some v → W.cell? (ad.add j) = some v := fun W hW h0 => by
          rw [List.length_map, hcl] at h0
          refine ⟨rfl, ?_⟩
          rw [if_neg (by omega)]
          rcases Hb.out with ⟨_, hl0, _⟩ | ⟨g, rfl, hgR, hgs, hgc⟩
          · rw [HLen.out, hl0] at hln; simp at hln; omega
          · refine ⟨⟨g, at0, none⟩, by simp [Addr.add]; intro h; exact h.symm, fun j v hj => ?_⟩
            have hj' : j < n := by have := (List.getElem?_eq_some_iff.1 hj).1; rw [List.length_map, hcl] at this; exact this
            rw [addr_add, hW.cell (p := ⟨g, at0 + j, none⟩) (show g < _ by omega), hgc (at0 + j) (by rw [← HLen.out]; omega)]
            rw [← hj]
            simp only [hcsl, List.getElem?_map]
            rw [List.getElem?_take_of_lt hj', List.getElem?_drop, List.getElem?_eq_getElem (by rw [← HLen.out]; omega)]
            rfl
        have HPos := Lib.hid hpos
        have HCsl := Lib.hid hcsl
        have HCl := Lib.hid hcl
        clear hpos hcsl hcl
        have hmin : Nat.min (len - at0) n = n := by show min _ _ = _; omega
        have HMin := Lib.hid hmin
        clear hmin
        go_region_law (first | (refine step_copy_splice rfl (.tmp 27) (.tmp 36) 34 34 rfl 5 Try.underlying34 (by kernel_rfl) _ _ _ _ _ _ rfl rfl w1.heap.size 0 cur.toList 5 HG4.out (cs.map bv) (by rw [HMin.out, List.length_map, HCl.out]) (HPos.out _ HB4.out.drew) (by rw [List.length_map, HCl.out]; simp [HCs.out]) (one_bv cs) w1.heap.size w1 HB4.out.drew (Nat.le_refl _) ?_; intro w6 hg6 hb6; rw [List.length_map, HCl.out]; (have x0 : w6.cell? ⟨R, 0, none⟩ = some (.slice b len cap) := by rw [hb6.cell (p := ⟨R, 0, none⟩) hRs]; exact c0); (have x1 : w6.cell? ⟨R, 1, none⟩ = some (.int .i64 (at0 : Int)) := by rw [hb6.cell (p := ⟨R, 1, none⟩) hRs]; exact c1); (have x2 : w6.frozen? ⟨R, 1, none⟩ = false := by rw [hb6.frozen (p := ⟨R, 1, none⟩) hRs]; exact f1)))
        all_goals go_wp2
        all_goals go_ret
        all_goals have hfin := text_close (st := st) (most := most) (u' := u + n) (at0 := at0) (k := k) (by rw [HAt.out]; exact HR.out) HO.out hb6 hg6.out (by rw [HCs.out, Nat.mul_one]) HCl.out (by
          simp only [pText, HP.out, ← HM.out, if_neg hmn]
          rw [if_neg (by rw [List.length_drop, ← HLen.out]; rw [HAt.out] at hln; omega), HCsl.out, List.drop_drop, HAt.out]) (by rw [HAt.out]; omega) (by rw [← HLen.out]; omega)
        all_goals (rw [IntWalk.i64_in ((at0 : Int) + (n : Int)) ⟨by omega, by omega⟩]; exact hfin)
end Go.Proofs.Ytgbhfolbkgibfaa

/- attempt: one reading; if it gives up, the reader is stuck. -/
namespace Go.Proofs.Ytgbhfolbkgibfaa
set_option maxRecDepth 20000
open Go.RowKit BinMath
variable {G : Nat}

/-- The reader where it stood, stuck. -/
theorem stuck_step {w : World} {R : Nat} {l : List UInt8} {k' k : Nat} {c : Int} (h : IsRd w R G l k' 0) (hk : k ≤ l.length) : IsRd ((w.setCell ⟨R, 1, none⟩ (.int .i64 (k : Int))).setCell ⟨R, 2, none⟩ (.int .i64 c)) R G l k c :=
  h.to (by simp [World.setCell]) (fun g _ hg => (heap_set_other hg _).trans (heap_set_other hg _)) (fun b cap hR => by rw [heap_set_same (heap_set_same hR _)]; rfl) hk

/-- What a reading does, as attempt asks it: it ends, or gives up; it may write the blocks of S. -/
def Reads (G R : Nat) (l : List UInt8) (S : Nat → Prop) (Ok : Nat → World → Prop) (Bad : Int → World → Prop) (w1 : World) (e : Ending) (w2 : World) : Prop :=
  ∃ k', IsRd w2 R G l k' 0 ∧ OnlyS S w1 w2 ∧ ((e = .returned (.tuple #[]) ∧ Ok k' w2) ∨ ∃ c, c ≠ 0 ∧ e = .panicked (gaveUp c) ∧ Bad c w2)

/-- How attempt ends. w2: the world behind the reading; from there only the reader and attempt's own variables turned. -/
def Attempted (G R : Nat) (l : List UInt8) (k : Nat) (S : Nat → Prop) (Ok : Nat → World → Prop) (Bad : Int → World → Prop) (w : World) (e : Ending) (w' : World) : Prop :=
  ∃ w2, w.heap.size + 3 ≤ w2.heap.size ∧ OnlyS S w w' ∧ OnlyS (fun b => b = R ∨ (w.heap.size ≤ b ∧ b < w.heap.size + 3)) w2 w' ∧
    ((∃ k', e = .returned (.int .i64 0) ∧ IsRd w' R G l k' 0 ∧ Ok k' w2) ∨ ∃ c, e = .returned (.int .i64 c) ∧ IsRd w' R G l k c ∧ Bad c w2)

/-- What the closure of attempt does: the reading, of the reader that its variable holds. -/
theorem reading_any (F : FuncId) (caps : Array Value) (hF : ∀ (args : Array Value) (w : World), (callFunc F args).run Try.prog w = .ok (.enter F args) w) (A B R : Nat) (w : World) (K : Ending → World → Prop)
    (hA : w.heap[A]? = some (.cells #[.func (.func F) #[] caps] 111 (0, 0))) (hB : w.heap[B]? = some (.cells #[.pointer (some ⟨R, 0, none⟩)] 85 (0, 0)))
    (hK : Calls Try.prog F (#[.pointer (some ⟨R, 0, none⟩)] ++ caps) w K) (hret : ∀ e w', K e w' → e = .returned (.tuple #[]) ∨ ∃ ps, e = .panicked ps) :
    Calls Try.prog 62 #[.pointer (some ⟨A, 0, none⟩), .pointer (some ⟨B, 0, none⟩)] w K := by
  have cA : w.cell? ⟨A, 0, none⟩ = some (.func (.func F) #[] caps) := by rw [cell_of_heap hA]; rfl
  have cB : w.cell? ⟨B, 0, none⟩ = some (.pointer (some ⟨R, 0, none⟩)) := by rw [cell_of_heap hB]; rfl
  have HK := Lib.hid hK
  have HRet := Lib.hid hret
  clear hA hB hK hret
  go_enter Try.func62, Try.ntmps62
  go_wp2_with fail
  refine HK.out.mono ?_
  rintro e w' hk
  rcases HRet.out e w' hk with rfl | ⟨ps, rfl⟩
  · go_wp2
    go_end0
    exact hk
  · exact ⟨rfl, hk⟩

set_option maxHeartbeats 1000000 in
theorem attempt_any (F : FuncId) (caps : Array Value) (hF : ∀ (args : Array Value) (w : World), (callFunc F args).run Try.prog w = .ok (.enter F args) w)
    (R : Nat) (l : List UInt8) (k : Nat) (w : World) (h : IsRd w R G l k 0) (S : Nat → Prop) (Ok : Nat → World → Prop) (Bad : Int → World → Prop) (hSR : S R) (hS : ∀ b, S b → b < w.heap.size)
    (hread : ∀ w1, Below w.heap.size w w1 → w1.heap.size = w.heap.size + 3 → Calls Try.prog F (#[.pointer (some ⟨R, 0, none⟩)] ++ caps) w1 (Reads G R l S Ok Bad w1)) :
    Calls Try.prog 58 #[.pointer (some ⟨R, 0, none⟩), .func (.func F) #[] caps] w (Attempted G R l k S Ok Bad w) := by
  have hmf : ∀ (fn : Fn) (first cap : Array Value) (w : World), (Instr.makeFunc fn first cap).run Try.prog w = .ok (.func fn first cap) w := fun _ _ _ _ => rfl
  have HI := Lib.hid h
  have HRead := Lib.hid hread
  have HS := Lib.hid hS
  obtain ⟨b, cap, hRh, hkl, -⟩ := h
  have r1 : w.cell? ⟨R, 1, none⟩ = some (.int .i64 (k : Int)) := by rw [cell_of_heap hRh]; rfl
  have r2 : w.cell? ⟨R, 2, none⟩ = some (.int .i64 0) := by rw [cell_of_heap hRh]; rfl
  have sR : R < w.heap.size := (Array.getElem?_eq_some_iff.1 hRh).1
  have m4 : ¬ w.heap.size = R := by omega
  clear hRh hread hS
  go_enter Try.func58, Try.ntmps58
  go_wp2_with fail
  obtain ⟨w0, hw0⟩ : ∃ w0, w0 = (w.alloc (.cells #[.pointer (some ⟨R, 0, none⟩)] 85)).alloc (.cells #[.func (.func F) #[] caps] 111) := ⟨_, rfl⟩
  rw [← hw0]
  have hb0 : Below w.heap.size w w0 := by rw [hw0]; exact ((Below.refl _ w).alloc (Nat.le_refl _) _).alloc (by simp) _
  have hs0 : w0.heap.size = w.heap.size + 2 := by rw [hw0]; simp
  have b0 : w0.heap[w.heap.size]? = some (.cells #[.pointer (some ⟨R, 0, none⟩)] 85 (0, 0)) := by
    rw [hw0, Below.heap_alloc _ _ _ (by simp)]; exact heap_alloc_new w _
  have a0 : w0.heap[w.heap.size + 1]? = some (.cells #[.func (.func F) #[] caps] 111 (0, 0)) := by
    rw [hw0]
    have := heap_alloc_new (w.alloc (.cells #[.pointer (some ⟨R, 0, none⟩)] 85)) (.cells #[.func (.func F) #[] caps] 111)
    simpa using this
  clear hw0
  have hC := caught_any 62 #[] #[.pointer (some ⟨w.heap.size + 1, 0, none⟩), .pointer (some ⟨w.heap.size, 0, none⟩)] (enters _ (by kernel_rfl)) w0
    (fun c w2 => OnlyS S w w2 ∧ (∃ k', IsRd w2 R G l k' 0 ∧ (c = 0 → Ok k' w2)) ∧ (c ≠ 0 → Bad c w2) ∧ w.heap.size + 3 ≤ w2.heap.size ∧ ∀ b, w.heap.size ≤ b → b < w.heap.size + 2 → w2.heap[b]? = w0.heap[b]?)
    (fun w1 hb1 hs1 => by
      have hbw : Below w.heap.size w w1 := hb0.trans (hb1.mono (by omega))
      refine (reading_any F caps hF (w.heap.size + 1) w.heap.size R w1 (Reads G R l S Ok Bad w1) ((hb1.block _ (by omega)).trans a0) ((hb1.block _ (by omega)).trans b0) (HRead.out w1 hbw (by omega)) ?_).mono ?_
      · rintro e w2 ⟨k', _, _, ⟨h, _⟩ | ⟨c, _, h, _⟩⟩
        · exact .inl h
        · exact .inr ⟨_, h⟩
      · rintro e w2 ⟨k', hr2, ho2, hcase⟩
        have hfar : ∀ b, w.heap.size ≤ b → b < w1.heap.size → w2.heap[b]? = w1.heap[b]? := fun b h1 h2 => ho2.block b h2 (fun hs => by have := HS.out b hs; omega)
        have hoW : OnlyS S w w2 := (OnlyS.of_below hbw (fun k hk _ => hk)).trans ho2
        have hsz := ho2.size
        have hkeep : ∀ b, w.heap.size ≤ b → b < w.heap.size + 2 → w2.heap[b]? = w0.heap[b]? := fun b h1 h2 => (hfar b h1 (by omega)).trans (hb1.block b (by omega))
        rcases hcase with ⟨rfl, hok⟩ | ⟨c, hc, rfl, hbad⟩
        · exact ⟨0, ⟨fun _ => rfl, fun h => absurd rfl h⟩, ⟨hoW, ⟨k', hr2, fun _ => hok⟩, fun h => absurd rfl h, by omega, hkeep⟩, hsz, hfar _ (by omega) (by omega)⟩
        · exact ⟨c, ⟨fun h => absurd h hc, fun _ => rfl⟩, ⟨hoW, ⟨k', hr2, fun h => absurd h hc⟩, fun _ => hbad, by omega, hkeep⟩, hsz, hfar _ (by omega) (by omega)⟩)
  have HC := Lib.hid hC
  have hsz0 := Lib.hid hs0
  have HB0 := Lib.hid b0
  clear hC hs0 b0 a0 hb0 r1 r2
  refine HC.out.mono ?_
  rintro e w3 ⟨c, w2, ⟨hoW, ⟨k', hr2, hok⟩, hbad, hsz, hkeep⟩, rfl, hsz2, ho3⟩
  rw [hsz0.out] at ho3
  have hR3 : IsRd w3 R G l k' 0 := hr2.only ho3 (fun b hb he => by have := HI.out.facts; omega) (by omega)
  have b3 : w3.heap[w.heap.size]? = some (.cells #[.pointer (some ⟨R, 0, none⟩)] 85 (0, 0)) := ((ho3.block _ (by omega) (by omega)).trans (hkeep _ (by omega) (by omega))).trans HB0.out
  have cB : w3.cell? ⟨w.heap.size, 0, none⟩ = some (.pointer (some ⟨R, 0, none⟩)) := by rw [cell_of_heap b3]; rfl
  have hto : OnlyS (fun b => b = R ∨ (w.heap.size ≤ b ∧ b < w.heap.size + 3)) w2 w3 := ho3.mono fun b _ hb => .inr (by omega)
  have hoT : OnlyS S w w3 := hoW.then ho3 fun b hb h => by omega
  have HR3 := Lib.hid hR3
  have HTo := Lib.hid hto
  have HoT := Lib.hid hoT
  have HSz := Lib.hid hsz
  clear hoW hr2 hkeep hsz2 ho3 b3 HC HB0 hR3 hto hoT hsz
  by_cases hc : c = 0
  · subst hc
    have HOk := Lib.hid (hok rfl)
    clear hok hbad
    go_wp2
    go_ret
    exact ⟨w2, HSz.out, HoT.out, HTo.out, .inl ⟨k', rfl, HR3.out, HOk.out⟩⟩
  · have i0 : (c != 0) = true := by simpa using hc
    have i1 : (c == 0) = false := by simpa using hc
    have HBad := Lib.hid (hbad hc)
    have HR4 := HR3.out
    obtain ⟨b', cap', hRh, -⟩ := HR4
    have r1 : w3.cell? ⟨R, 1, none⟩ = some (.int .i64 (k' : Int)) := by rw [cell_of_heap hRh]; rfl
    have r2 : w3.cell? ⟨R, 2, none⟩ = some (.int .i64 0) := by rw [cell_of_heap hRh]; rfl
    have f1 : w3.frozen? ⟨R, 1, none⟩ = false := free_of_heap hRh
    have f2 : w3.frozen? ⟨R, 2, none⟩ = false := free_of_heap hRh
    clear hok hbad hc hRh
    go_wp2
    go_region
    all_goals go_wp2
    all_goals go_ret
    all_goals exact ⟨w2, HSz.out, (HoT.out.setCell (p := ⟨R, 1, none⟩) (fun _ => hSR) _).setCell (p := ⟨R, 2, none⟩) (fun _ => hSR) _ |>.drew, (HTo.out.setCell (p := ⟨R, 1, none⟩) (fun _ => .inl rfl) _).setCell (p := ⟨R, 2, none⟩) (fun _ => .inl rfl) _ |>.drew, .inr ⟨c, rfl, stuck_step HR3.out hkl, HBad.out⟩⟩
end Go.Proofs.Ytgbhfolbkgibfaa

