/- Joined: BinRead, BinAttempt, BinMethods, BinMethods2, BinOrder, BinNew, BinNil. -/
import Derived.Test.YtidapdooiibfnaaHT
import Derived.Test.YtidapdooiibfnaaHS
import Derived.Test.YtidapdooiibfnaaHA
import Derived.BigQuiet
import Derived.Deep.QuietTactic
import Derived.Laws.CopyOwn
import Derived.Deep.RegionLaw
import Derived.Lib.BufferRead
/- The reader of bytes: its inner readings, which give up by a panic. -/
namespace Go.Proofs.Ytidapdooiibfnaa
set_option maxRecDepth 20000
open Go.RowKit BinMath
variable {G : Nat}

/-- A reader in block R: it stands at place k of the bytes l; stuck by st. -/
def IsRd (w : World) (R G : Nat) (l : List UInt8) (k : Nat) (st : Int) : Prop :=
  ∃ b cap, w.heap[R]? = some (.cells #[.slice b l.length cap, .int .i64 (k : Int), .int .i64 st] 95 (0, 0)) ∧ k ≤ l.length ∧ l.length ≤ 140737488351232 ∧ (l.length ≤ cap ∧ cap ≤ maxLen ∧ G ≤ w.heap.size) ∧
    (b = none ∧ l = [] ∧ cap = 0 ∨ ∃ g, b = some ⟨g, 0, none⟩ ∧ g ≠ R ∧ g < G ∧ ∀ i (h : i < l.length), w.cell? ⟨g, i, none⟩ = some (bv l[i]))

theorem digs_code : ∀ (m : Nat) (first : Bool) (acc : Nat) (r : List UInt8) (c : Nat), digs m first acc r = .error c → c ≠ 0
  | 0, _, _, _, _, h => by simp [digs] at h
  | m + 1, first, acc, [], c, h => by simp [digs] at h; omega
  | m + 1, first, acc, x :: r, c, h => by
    unfold digs at h
    split at h
    · cases h; decide
    · exact digs_code m false _ r c h

theorem pNum_code {l : List UInt8} {c : Nat} (h : pNum l = .error c) : c ≠ 0 := by
  cases l with
  | nil => simp [pNum] at h; omega
  | cons k r =>
    simp only [pNum] at h
    split at h
    · cases h; decide
    · cases hd : digs k.toNat true 0 r with
      | error d => rw [hd] at h; simp at h; subst h; exact digs_code _ _ _ _ _ hd
      | ok m => rw [hd] at h; cases h

theorem pText_code {most : Nat} {l : List UInt8} {c : Nat} (h : pText most l = .error c) : c ≠ 0 := by
  unfold pText at h
  cases hn : pNum l with
  | error d => rw [hn] at h; simp at h; subst h; exact pNum_code hn
  | ok q =>
    rw [hn] at h
    simp only at h
    split at h
    · cases h; decide
    · split at h
      · cases h; decide
      · cases h

set_option maxHeartbeats 400000 in
theorem left_any (l : List UInt8) (k : Nat) (st : Int) (R : Nat) (w : World) (h : IsRd w R G l k st) :
    Calls Try.prog 56 #[.pointer (some ⟨R, 0, none⟩)] w fun e w' => e = .returned (.int .i64 ((l.length - k : Nat) : Int)) ∧ ∃ n, w' = w.drewN n := by
  obtain ⟨b, cap, hR, hk, hl, hcap, -⟩ := h
  have c0 : w.cell? ⟨R, 0, none⟩ = some (.slice b l.length cap) := by rw [cell_of_heap hR]; rfl
  have c1 : w.cell? ⟨R, 1, none⟩ = some (.int .i64 (k : Int)) := by rw [cell_of_heap hR]; rfl
  clear hR
  go_enter Try.func56, Try.ntmps56
  go_wp2
  go_quiet (fail)
  go_wp2
  go_ret
  refine ⟨congrArg Ending.returned (congrArg (Value.int IntKind.i64) ?_), _, rfl⟩
  omega

/-- A reader in a later world, its bytes where they were. -/
theorem IsRd.to {w w' : World} {R : Nat} {l : List UInt8} {k k' : Nat} {st st' : Int} (h : IsRd w R G l k st) (hsz : w.heap.size ≤ w'.heap.size) (hfar : ∀ g, g < G → g ≠ R → w'.heap[g]? = w.heap[g]?)
    (hR : ∀ b cap, w.heap[R]? = some (.cells #[.slice b l.length cap, .int .i64 (k : Int), .int .i64 st] 95 (0, 0)) → w'.heap[R]? = some (.cells #[.slice b l.length cap, .int .i64 (k' : Int), .int .i64 st'] 95 (0, 0))) (hk : k' ≤ l.length) : IsRd w' R G l k' st' := by
  obtain ⟨b, cap, hRw, hk0, hl, ⟨h1, h2, h3⟩, hb⟩ := h
  refine ⟨b, cap, hR b cap hRw, hk, hl, ⟨h1, h2, Nat.le_trans h3 hsz⟩, ?_⟩
  rcases hb with hb | ⟨g, e, hg, hgs, hc⟩
  · exact .inl hb
  · exact .inr ⟨g, e, hg, hgs, fun i hi => (World.cell?_of_block (hfar g hgs hg)).trans (hc i hi)⟩

theorem IsRd.drewN {w : World} {R : Nat} {l : List UInt8} {k : Nat} {st : Int} (h : IsRd w R G l k st) (n : Nat) : IsRd (w.drewN n) R G l k st := h

theorem IsRd.facts {w : World} {R : Nat} {l : List UInt8} {k : Nat} {st : Int} (h : IsRd w R G l k st) : R < w.heap.size ∧ k ≤ l.length ∧ l.length ≤ 140737488351232 ∧ G ≤ w.heap.size := by
  obtain ⟨b, cap, hRw, hk0, hl, ⟨_, _, h3⟩, _⟩ := h
  exact ⟨(Array.getElem?_eq_some_iff.1 hRw).1, hk0, hl, h3⟩

/-- The reader behind a store into its block. -/
theorem IsRd.step {w : World} {R : Nat} {l : List UInt8} {k : Nat} {st : Int} (h : IsRd w R G l k st) {k' : Nat} (hk : k' ≤ l.length) : IsRd (w.setCell ⟨R, 1, none⟩ (.int .i64 (k' : Int))) R G l k' st :=
  h.to (by simp [World.setCell]) (fun g _ hg => heap_set_other hg _) (fun b cap hR => by rw [heap_set_same hR]; rfl) hk

/-- Whatever else turns, as long as it is none of the blocks below G. -/
theorem IsRd.only {w w' : World} {R : Nat} {l : List UInt8} {k : Nat} {st : Int} {S : Nat → Prop} (h : IsRd w R G l k st) (ho : OnlyS S w w') (hS : ∀ b, b < G → ¬ S b) (hSR : ¬ S R) : IsRd w' R G l k st := by
  have hf := h.facts
  exact h.to ho.size (fun g hg _ => ho.block g (by omega) (hS g hg)) (fun b cap hR => by rw [ho.block R hf.1 hSR]; exact hR) hf.2.1

theorem IsRd.below {w w' : World} {R : Nat} {l : List UInt8} {k : Nat} {st : Int} (h : IsRd w R G l k st) (hb : Below w.heap.size w w') : IsRd w' R G l k st :=
  h.only (S := fun _ => False) (OnlyS.of_below hb fun _ hk _ => hk) (fun _ _ => id) id

set_option maxHeartbeats 400000 in
theorem next_none (l : List UInt8) (k : Nat) (R : Nat) (st : Int) (w : World) (h : IsRd w R G l k st) (hk : k = l.length) :
    Calls Try.prog 108 #[.pointer (some ⟨R, 0, none⟩)] w fun e w' => e = .panicked (gaveUp 2) ∧ ∃ n, w' = w.drewN n := by
  have hL := left_any l k st R w h
  rw [hk, Nat.sub_self] at hL
  go_enter Try.func108, Try.ntmps108
  go_wp2_with fail
  refine hL.mono ?_
  rintro e w1 ⟨rfl, n, rfl⟩
  go_wp2_with (go_at_call 32; refine (quit_bad _ (by decide) _).mono ?_; rintro e w2 ⟨rfl, rfl⟩)
  exact ⟨rfl, rfl, _, rfl⟩

set_option maxHeartbeats 400000 in
theorem next_some (l : List UInt8) (k : Nat) (R : Nat) (st : Int) (w : World) (h : IsRd w R G l k st) (hk : k < l.length) :
    Calls Try.prog 108 #[.pointer (some ⟨R, 0, none⟩)] w fun e w' => e = .returned (bv l[k]) ∧ IsRd w' R G l (k + 1) st ∧ Only R w w' := by
  have hL := left_any l k st R w h
  obtain ⟨m, hm⟩ : ∃ m, m + 1 = l.length - k := ⟨l.length - k - 1, by omega⟩
  rw [← hm] at hL
  have hne : (((m + 1 : Nat) : Int) == 0) = false := by simp; omega
  have hst := Lib.hid (h.step (k' := k + 1) (by omega))
  obtain ⟨b, cap, hR, hk0, hl, hcap, hb⟩ := h
  rcases hb with ⟨_, rfl, _⟩ | ⟨g, rfl, hg, hgs, hc⟩
  · simp at hk
  have c0 : w.cell? ⟨R, 0, none⟩ = some (.slice (some ⟨g, 0, none⟩) l.length cap) := by rw [cell_of_heap hR]; rfl
  have c1 : w.cell? ⟨R, 1, none⟩ = some (.int .i64 (k : Int)) := by rw [cell_of_heap hR]; rfl
  have f1 : w.frozen? ⟨R, 1, none⟩ = false := free_of_heap hR
  have cg : w.cell? ⟨g, k, none⟩ = some (bv l[k]) := hc k hk
  obtain ⟨y, hy⟩ : ∃ y, y = bv l[k] := ⟨_, rfl⟩
  rw [← hy] at cg ⊢
  have hkb : (k : Int) < (l.length : Int) := by omega
  obtain ⟨len, hlen⟩ : ∃ len, len = l.length := ⟨_, rfl⟩
  rw [← hlen] at c0 hkb
  have hll : len ≤ 140737488351232 := by omega
  clear hR hc hy hm hlen
  go_enter Try.func108, Try.ntmps108
  go_wp2_with fail
  refine hL.mono ?_
  rintro e w1 ⟨rfl, n, rfl⟩
  clear hL
  go_wp2
  go_quiet (fail)
  go_wp2
  go_ret
  refine ⟨rfl, ?_, ?_⟩
  · have e : ((k + 1 : Nat) : Int) = (k : Int) + 1 := by omega
    have h := hst.out
    rw [e] at h
    exact h.drewN _
  · exact ((Only.refl R w).drewN _).setR 1 _
/-- How an inner reading ends: with its value, or by giving up; where the reader then stands. -/
def NumEnd (G : Nat) (l : List UInt8) (k : Nat) (R : Nat) (st : Int) (w : World) (e : Ending) (w' : World) : Prop :=
  ∃ k', IsRd w' R G l k' st ∧ Only R w w' ∧ match pNum (l.drop k) with
    | .ok (n, u) => e = .returned (.int .u64 (n : Int)) ∧ k' = k + u
    | .error c => e = .panicked (gaveUp c)

/-- 'n<<8 | c'. -/
theorem shift_or (acc c i : Nat) (hi : i < 8) (ha : acc < 256 ^ i) (hc : c < 256) : bits BinOp.or IntKind.u64 (IntKind.u64.wrap ((acc : Int) * 256)) (c : Int) = ((acc * 256 + c : Nat) : Int) := by
  have h7 : 256 ^ i ≤ 256 ^ 7 := Nat.pow_le_pow_right (by decide) (by omega)
  have e7 : (256 : Nat) ^ 7 = 72057594037927936 := by decide
  rw [IntWalk.u64_in _ ⟨by omega, by omega⟩]
  rw [show (acc : Int) * 256 = ((acc * 256 : Nat) : Int) by omega, u64_or_nat _ _ (by omega) (by omega)]
  congr 1
  have := Nat.two_pow_add_eq_or_of_lt (i := 8) (b := c) (by omega) acc
  rw [show (2 : Nat) ^ 8 = 256 by decide, Nat.mul_comm] at this
  exact this.symm

theorem pNum_eq {l r : List UInt8} {c : UInt8} {y : Nat} (h : l = c :: r) (hy : y = c.toNat) (h8 : ¬ 8 < y) : pNum l = match digs y true 0 r with
    | .ok n => .ok (n, y + 1)
    | .error c => .error c := by
  subst h hy
  simp only [pNum, if_neg h8]
  cases digs c.toNat true 0 r <;> rfl

set_option maxHeartbeats 1000000 in
theorem number_any (l : List UInt8) (k : Nat) (R : Nat) (st : Int) (w : World) (h : IsRd w R G l k st) :
    Calls Try.prog 106 #[.pointer (some ⟨R, 0, none⟩)] w (NumEnd G l k R st w) := by
  have hk : k ≤ l.length := by obtain ⟨_, _, _, hk, _⟩ := h; exact hk
  by_cases hlt : k < l.length
  · have hN := next_some l k R st w h hlt
    have hdr : l.drop k = l[k] :: l.drop (k + 1) := by rw [List.drop_eq_getElem_cons hlt]
    unfold bv at hN
    obtain ⟨y, hy⟩ : ∃ y, y = l[k].toNat := ⟨_, rfl⟩
    have hyb : y < 256 := by rw [hy]; exact l[k].toNat_lt
    rw [← hy] at hN
    have HY := Lib.hid hy
    have HD := Lib.hid hdr
    clear hy hdr
    by_cases h8 : 8 < y
    · go_enter Try.func106, Try.ntmps106
      go_wp2_with fail
      refine hN.mono ?_
      rintro e w1 ⟨rfl, hr1, ho1⟩
      have HR := Lib.hid hr1
      have HO := Lib.hid ho1
      clear hr1 ho1 hN
      go_wp2_with (go_at_call 32; refine (quit_bad _ (by decide) _).mono ?_; rintro e w2 ⟨rfl, rfl⟩)
      refine ⟨rfl, k + 1, HR.out, HO.out, ?_⟩
      rw [HD.out, pNum, if_pos (by rw [← HY.out]; exact h8)]
      rfl
    · have h8' : decide ((8 : Int) < (y : Int)) = false := by simp; omega
      go_enter Try.func106, Try.ntmps106
      go_wp2_with fail
      refine hN.mono ?_
      rintro e w1 ⟨rfl, hr1, ho1⟩
      have HR := Lib.hid hr1
      have HO := Lib.hid ho1
      clear hr1 ho1 hN
      go_wp2_with fail
      clear h8'
      go_loopw [4, 14] (fun s4 s14 wr => ∃ i acc : Nat, i ≤ y ∧ s14 = .int .i64 (i : Int) ∧ s4 = .int .u64 (acc : Int) ∧ acc < 256 ^ i ∧ IsRd wr R G l (k + 1 + i) st ∧ Only R w wr ∧ digs (y - i) (i == 0) acc (l.drop (k + 1 + i)) = digs y true 0 (l.drop (k + 1))) (fun _ s14 _ => (y - intOf s14).toNat)
      case atStart => exact ⟨0, 0, Nat.zero_le _, rfl, rfl, by simp, HR.out, HO.out, rfl⟩
      case round =>
        obtain ⟨i, acc, hi, rfl, rfl, hacc, hrd, hon, heq⟩ := hrel
        have HA := Lib.hid hacc
        have HRd := Lib.hid hrd
        have HOn := Lib.hid hon
        have HE := Lib.hid heq
        have hNs := fun h => next_some l (k + 1 + i) R st wr hrd h
        have hNn := fun h => next_none l (k + 1 + i) R st wr hrd h
        have HNs := Lib.hid hNs
        have HNn := Lib.hid hNn
        clear hacc hrd hon heq hNs hNn
        by_cases hiy : i < y
        · by_cases hin : k + 1 + i < l.length
          · have hN := HNs.out hin
            unfold bv at hN
            obtain ⟨c, hc⟩ : ∃ c, c = l[k + 1 + i].toNat := ⟨_, rfl⟩
            have hcb : c < 256 := by rw [hc]; exact UInt8.toNat_lt _
            rw [← hc] at hN
            have HC := Lib.hid hc
            clear hc
            have hdr : l.drop (k + 1 + i) = l[k + 1 + i] :: l.drop (k + 1 + i + 1) := List.drop_eq_getElem_cons hin
            have HDr := Lib.hid hdr
            clear hdr
            go_wp2_with fail
            refine hN.mono ?_
            rintro e w2 ⟨rfl, hr2, ho2⟩
            have HR2 := Lib.hid hr2
            have HO2 := Lib.hid ho2
            clear hr2 ho2 hN
            have hdig : digs (y - i) (i == 0) acc (l.drop (k + 1 + i)) = if (i == 0) && c == 0 then .error 3 else digs (y - (i + 1)) false (acc * 256 + c) (l.drop (k + 1 + i + 1)) := by
              rw [show y - i = y - (i + 1) + 1 by omega, HDr.out, digs, HC.out]
            have HDg := Lib.hid hdig
            clear hdig
            by_cases h0 : i = 0
            · by_cases hc0 : c = 0
              · have e1 : ((i : Int) == 0) = true := by simp; omega
                have e2 : ((c : Int) == 0) = true := by simp; omega
                have H0 := Lib.hid h0
                have HC0 := Lib.hid hc0
                clear h0 hc0
                go_wp2_with (go_at_call 32; refine (quit_bad _ (by decide) _).mono ?_; rintro e w3 ⟨rfl, rfl⟩)
                refine ⟨rfl, k + 1 + i + 1, HR2.out, HOn.out.trans HO2.out, ?_⟩
                rw [pNum_eq HD.out HY.out h8, ← HE.out, HDg.out, if_pos (by rw [H0.out, HC0.out]; rfl)]
                rfl
              · have e1 : ((i : Int) == 0) = true := by simp; omega
                have e2 : ((c : Int) == 0) = false := by simp; omega
                have H0 := Lib.hid h0
                have HC0 := Lib.hid hc0
                clear h0 hc0
                go_wp2
                go_roundw
                case rel =>
                  refine ⟨i + 1, acc * 256 + c, by omega, by go_num, congrArg (Value.int IntKind.u64) (shift_or acc c i (by omega) HA.out hcb), ?_, HR2.out, HOn.out.trans HO2.out, ?_⟩
                  · have := HA.out; rw [Nat.pow_succ]; omega
                  · rw [← HE.out, HDg.out, if_neg (by simp; exact fun _ => HC0.out)]; rfl
                case measure => simp [intOf]; omega
            · have e1 : ((i : Int) == 0) = false := by simp; omega
              have H0 := Lib.hid h0
              clear h0
              go_wp2
              go_roundw
              case rel =>
                refine ⟨i + 1, acc * 256 + c, by omega, by go_num, congrArg (Value.int IntKind.u64) (shift_or acc c i (by omega) HA.out hcb), ?_, HR2.out, HOn.out.trans HO2.out, ?_⟩
                · have := HA.out; rw [Nat.pow_succ]; omega
                · rw [← HE.out, HDg.out, if_neg (by simp; exact fun h => absurd h H0.out)]; rfl
              case measure => simp [intOf]; omega
          · have hN := HNn.out (by have := HRd.out; obtain ⟨_, _, _, hh, _⟩ := this; omega)
            go_wp2_with fail
            refine hN.mono ?_
            rintro e w2 ⟨rfl, n, rfl⟩
            refine ⟨rfl, k + 1 + i, HRd.out.drewN n, HOn.out.drewN n, ?_⟩
            rw [pNum_eq HD.out HY.out h8, ← HE.out, List.drop_eq_nil_of_le (by omega), show y - i = y - (i + 1) + 1 by omega, digs]
            rfl
        · go_wp2
          go_ret
          refine ⟨k + 1 + i, HRd.out, HOn.out, ?_⟩
          rw [pNum_eq HD.out HY.out h8, ← HE.out, show y - i = 0 by omega, digs]
          exact ⟨rfl, by omega⟩
  · have hN := next_none l k R st w h (by omega)
    go_enter Try.func106, Try.ntmps106
    go_wp2_with fail
    refine hN.mono ?_
    rintro e w1 ⟨rfl, n, rfl⟩
    refine ⟨rfl, k, h.drewN n, (Only.refl R w).drewN n, ?_⟩
    rw [List.drop_eq_nil_of_le (by omega)]
    rfl

/-- How the reading of a text ends. -/
def TextEnd (G : Nat) (l : List UInt8) (k : Nat) (R : Nat) (st : Int) (most : Int) (w : World) (e : Ending) (w' : World) : Prop :=
  ∃ k', IsRd w' R G l k' st ∧ Only R w w' ∧ match pText most.toNat (l.drop k) with
    | .ok (t, u) => (∃ v, e = .returned v ∧ Row w' w.heap.size v t) ∧ k' = k + u
    | .error c => e = .panicked (gaveUp c)

theorem text_close {l : List UInt8} {k R : Nat} {st most : Int} {w w1 w6 : World} {n at0 u' : Nat} {cs : List UInt8} {cur : Array Value} (HR : IsRd w1 R G l at0 st) (HO : Only R w w1) (hb6 : Below w1.heap.size w1 w6)
    (hg6 : w6.heap[w1.heap.size]? = some (.cells (splice cur.toList 0 (cs.map bv)).toArray 5 (0, 0))) (hcs : cur.size = n) (hcl : cs.length = n) (hp : pText most.toNat (l.drop k) = .ok (cs, u')) (hu : at0 + n = k + u') (hfit : at0 + n ≤ l.length) :
    TextEnd G l k R st most w (.returned (.slice (some ⟨w1.heap.size, 0, none⟩) n n)) (w6.setCell ⟨R, 1, none⟩ (.int .i64 ((at0 : Int) + (n : Int)))) := by
  have hRs : R < w1.heap.size := by
    obtain ⟨b, cap, hR, _⟩ := HR
    exact (Array.getElem?_eq_some_iff.1 hR).1
  have hll : l.length ≤ 140737488351232 := by obtain ⟨b, cap, _, _, hl, _⟩ := HR; exact hl
  have e1 : ((at0 : Int) + (n : Int)) = ((at0 + n : Nat) : Int) := by omega
  refine ⟨at0 + n, ?_, ?_, ?_⟩
  · rw [e1]; exact (HR.below hb6).step hfit
  · exact (HO.trans (Only.of_below hb6)).setR 1 _
  · rw [hp]
    refine ⟨⟨_, rfl, ?_⟩, hu⟩
    unfold Row
    rw [hcl]
    refine ⟨by simp [hcl], .inr ⟨w1.heap.size, n, (splice cur.toList 0 (cs.map bv)).toArray, rfl, HO.size, ?_, Nat.le_refl _, by unfold maxLen; omega, ?_, ?_⟩⟩
    · rw [Below.heap_setCell _ _ _ _ (by simp; omega)]; exact hg6
    · simp [splice, hcl, hcs]
    · simp [splice, hcl]

set_option maxHeartbeats 1000000 in
theorem text_any (l : List UInt8) (k : Nat) (R : Nat) (st most : Int) (w : World) (h : IsRd w R G l k st) (hm : -9223372036854775808 ≤ most ∧ most ≤ 9223372036854775807) :
    Calls Try.prog 110 #[.pointer (some ⟨R, 0, none⟩), .int .i64 most] w (TextEnd G l k R st most w) := by
  have hN := number_any l k R st w h
  unfold NumEnd at hN
  cases hp : pNum (l.drop k) with
  | error c =>
    rw [hp] at hN
    go_enter Try.func110, Try.ntmps110
    go_wp2_with fail
    refine hN.mono ?_
    rintro e w1 ⟨k', h1, h2, rfl⟩
    exact ⟨rfl, k', h1, h2, by simp only [pText, hp]⟩
  | ok p =>
    obtain ⟨n, u⟩ := p
    rw [hp] at hN
    have HP := Lib.hid hp
    have hnb := (pNum_used hp).2.1
    have hub := (pNum_used hp).1
    clear hp
    rw [List.length_drop] at hub
    obtain ⟨mm, hmm⟩ : ∃ mm : Nat, mm = most.toNat := ⟨_, rfl⟩
    have hmb : mm ≤ 9223372036854775807 := by omega
    have hmax : max most 0 = (mm : Int) := by omega
    have HM := Lib.hid hmm
    clear hmm hm
    go_enter Try.func110, Try.ntmps110
    go_wp2_with fail
    refine hN.mono ?_
    rintro e w1 ⟨k', h1, h2, rfl, rfl⟩
    have HR := Lib.hid h1
    have HO := Lib.hid h2
    have hL := left_any l (k + u) st R w1 h1
    have HL := Lib.hid hL
    clear h1 h2 hN hL
    by_cases hmn : mm < n
    · go_wp2_with (go_at_call 32; refine (quit_bad _ (by decide) _).mono ?_; rintro e w3 ⟨rfl, rfl⟩)
      refine ⟨rfl, k + u, HR.out, HO.out, ?_⟩
      simp only [pText, HP.out, ← HM.out, if_pos hmn]
      rfl
    · by_cases hln : l.length - (k + u) < n
      · go_wp2_with (go_at_call 56; refine HL.out.mono ?_; rintro e w3 ⟨rfl, q, rfl⟩)
        go_wp2_with (go_at_call 32; refine (quit_bad _ (by decide) _).mono ?_; rintro e w3 ⟨rfl, rfl⟩)
        refine ⟨rfl, k + u, HR.out.drewN q, HO.out.drewN q, ?_⟩
        simp only [pText, HP.out, ← HM.out, if_neg hmn]
        rw [if_pos (by rw [List.length_drop]; omega)]
        rfl
      · obtain ⟨i0, hi, hz0, hz1, hz2⟩ := info_parts info_byte
        have hR1 := HR.out
        obtain ⟨b, cap, hRh, hkl, hll, ⟨hlc, hcm, hGs⟩, hb⟩ := hR1
        have hcm' : cap ≤ 9223372036854775807 := by unfold maxLen at hcm; exact hcm
        have c0 : w1.cell? ⟨R, 0, none⟩ = some (.slice b l.length cap) := by rw [cell_of_heap hRh]; rfl
        have c1 : w1.cell? ⟨R, 1, none⟩ = some (.int .i64 ((k + u : Nat) : Int)) := by rw [cell_of_heap hRh]; rfl
        have f1 : w1.frozen? ⟨R, 1, none⟩ = false := free_of_heap hRh
        have hRs : R < w1.heap.size := (Array.getElem?_eq_some_iff.1 hRh).1
        obtain ⟨at0, hat⟩ : ∃ at0, at0 = k + u := ⟨_, rfl⟩
        rw [← hat] at c1 hln hkl
        obtain ⟨len, hlen⟩ : ∃ len, len = l.length := ⟨_, rfl⟩
        rw [← hlen] at c0 hln hkl hll hlc
        have HRh := Lib.hid hRh
        have Hb := Lib.hid hb
        have HAt := Lib.hid hat
        have HLen := Lib.hid hlen
        rw [← hat, ← hlen] at HL
        clear hRh hb hat hlen hcm hub
        go_wp2_with (first | (go_at_call 56; refine HL.out.mono ?_; rintro e w3 ⟨rfl, q, rfl⟩) | (at_make; refine wpList_make_full _ rfl _ _ 25 rfl w1.heap.size 5 i0 (.int .u8 0) 1 Try.underlying25 hi hz0 hz1 _ _ _ _ n rfl rfl rfl rfl (by rw [hz2]; omega) (by unfold maxLen; omega) (by simp) ?_; intro w4 hown hgrow))
        have hb4 : Below w1.heap.size w1 w4 := Below.grown (B := w1.heap.size) (w := w1.drewN q) ⟨rfl, rfl, rfl, Nat.le_refl _, fun _ _ => rfl⟩ hgrow (Nat.le_refl _) (by simp)
        rcases hown.2 with ⟨h0, _⟩ | ⟨T, cap0, cur, hT, hBT, hg4, hnc, hcm0, hcs, htk⟩
        · cases h0
        obtain ⟨rfl, rfl⟩ : w1.heap.size = T ∧ n = cap0 := by simpa using hT
        have d0 : w4.cell? ⟨R, 0, none⟩ = some (.slice b len cap) := by rw [hb4.cell (p := ⟨R, 0, none⟩) hRs]; exact c0
        have d1 : w4.cell? ⟨R, 1, none⟩ = some (.int .i64 (at0 : Int)) := by rw [hb4.cell (p := ⟨R, 1, none⟩) hRs]; exact c1
        have g1 : w4.frozen? ⟨R, 1, none⟩ = false := by rw [hb4.frozen (p := ⟨R, 1, none⟩) hRs]; exact f1
        have HG4 := Lib.hid hg4
        have HB4 := Lib.hid hb4
        have HCs := Lib.hid hcs
        clear hown hgrow hT hBT hg4 hnc hcm0 hcs htk hb4
        obtain ⟨cs, hcsl⟩ : ∃ cs : List UInt8, cs = (l.drop at0).take n := ⟨_, rfl⟩
        have hcl : cs.length = n := by rw [hcsl, List.length_take, List.length_drop, ← HLen.out]; omega
        have hpos : ∀ W : World, Below w1.heap.size w1 W → 0 < (cs.map bv).length → some (⟨w1.heap.size, 0, none⟩ : Addr) = some ⟨w1.heap.size, 0, none⟩ ∧ ∃ ad, (if cap = at0 then b else b.map (fun x => x.add at0)) = some ad ∧ ∀ j v, (cs.map bv)[j]? = some v → W.cell? (ad.add j) = some v := fun W hW h0 => by
          rw [List.length_map, hcl] at h0
          refine ⟨rfl, ?_⟩
          rw [if_neg (by omega)]
          rcases Hb.out with ⟨_, hl0, _⟩ | ⟨g, rfl, hgR, hgs, hgc⟩
          · rw [HLen.out, hl0] at hln; simp at hln; omega
          · refine ⟨⟨g, at0, none⟩, by simp [Addr.add]; intro h; exact h.symm, fun j v hj => ?_⟩
            have hj' : j < n := by have := (List.getElem?_eq_some_iff.1 hj).1; rw [List.length_map, hcl] at this; exact this
            rw [addr_add, hW.cell (p := ⟨g, at0 + j, none⟩) (show g < _ by omega), hgc (at0 + j) (by rw [← HLen.out]; omega)]
            rw [← hj]
            simp only [hcsl, List.getElem?_map]
            rw [List.getElem?_take_of_lt hj', List.getElem?_drop, List.getElem?_eq_getElem (by rw [← HLen.out]; omega)]
            rfl
        have HPos := Lib.hid hpos
        have HCsl := Lib.hid hcsl
        have HCl := Lib.hid hcl
        clear hpos hcsl hcl
        have hmin : Nat.min (len - at0) n = n := by show min _ _ = _; omega
        have HMin := Lib.hid hmin
        clear hmin
        go_region_law (first | (refine step_copy_splice rfl (.tmp 27) (.tmp 36) 25 25 rfl 5 Try.underlying25 (by kernel_rfl) _ _ _ _ _ _ rfl rfl w1.heap.size 0 cur.toList 5 HG4.out (cs.map bv) (by rw [HMin.out, List.length_map, HCl.out]) (HPos.out _ HB4.out.drew) (by rw [List.length_map, HCl.out]; simp [HCs.out]) (one_bv cs) w1.heap.size w1 HB4.out.drew (Nat.le_refl _) ?_; intro w6 hg6 hb6; rw [List.length_map, HCl.out]; (have x0 : w6.cell? ⟨R, 0, none⟩ = some (.slice b len cap) := by rw [hb6.cell (p := ⟨R, 0, none⟩) hRs]; exact c0); (have x1 : w6.cell? ⟨R, 1, none⟩ = some (.int .i64 (at0 : Int)) := by rw [hb6.cell (p := ⟨R, 1, none⟩) hRs]; exact c1); (have x2 : w6.frozen? ⟨R, 1, none⟩ = false := by rw [hb6.frozen (p := ⟨R, 1, none⟩) hRs]; exact f1)))
        all_goals go_wp2
        all_goals go_ret
        all_goals have hfin := text_close (st := st) (most := most) (u' := u + n) (at0 := at0) (k := k) (by rw [HAt.out]; exact HR.out) HO.out hb6 hg6.out (by rw [HCs.out, Nat.mul_one]) HCl.out (by
          simp only [pText, HP.out, ← HM.out, if_neg hmn]
          rw [if_neg (by rw [List.length_drop, ← HLen.out]; rw [HAt.out] at hln; omega), HCsl.out, List.drop_drop, HAt.out]) (by rw [HAt.out]; omega) (by rw [← HLen.out]; omega)
        all_goals (rw [IntWalk.i64_in ((at0 : Int) + (n : Int)) ⟨by omega, by omega⟩]; exact hfin)
end Go.Proofs.Ytidapdooiibfnaa

/- attempt: one reading; if it gives up, the reader is stuck. -/
namespace Go.Proofs.Ytidapdooiibfnaa
set_option maxRecDepth 20000
open Go.RowKit BinMath
variable {G : Nat}

/-- The reader where it stood, stuck. -/
theorem stuck_step {w : World} {R : Nat} {l : List UInt8} {k' k : Nat} {c : Int} (h : IsRd w R G l k' 0) (hk : k ≤ l.length) : IsRd ((w.setCell ⟨R, 1, none⟩ (.int .i64 (k : Int))).setCell ⟨R, 2, none⟩ (.int .i64 c)) R G l k c :=
  h.to (by simp [World.setCell]) (fun g _ hg => (heap_set_other hg _).trans (heap_set_other hg _)) (fun b cap hR => by rw [heap_set_same (heap_set_same hR _)]; rfl) hk

/-- What a reading does, as attempt asks it: it ends, or gives up; it may write the blocks of S. -/
def Reads (G R : Nat) (l : List UInt8) (S : Nat → Prop) (Ok : Nat → World → Prop) (Bad : Int → World → Prop) (w1 : World) (e : Ending) (w2 : World) : Prop :=
  ∃ k', IsRd w2 R G l k' 0 ∧ OnlyS S w1 w2 ∧ ((e = .returned (.tuple #[]) ∧ Ok k' w2) ∨ ∃ c, c ≠ 0 ∧ e = .panicked (gaveUp c) ∧ Bad c w2)

/-- How attempt ends. w2: the world behind the reading; from there only the reader and attempt's own variables turned. -/
def Attempted (G R : Nat) (l : List UInt8) (k : Nat) (S : Nat → Prop) (Ok : Nat → World → Prop) (Bad : Int → World → Prop) (w : World) (e : Ending) (w' : World) : Prop :=
  ∃ w2, w.heap.size + 3 ≤ w2.heap.size ∧ OnlyS S w w' ∧ OnlyS (fun b => b = R ∨ (w.heap.size ≤ b ∧ b < w.heap.size + 3)) w2 w' ∧
    ((∃ k', e = .returned (.int .i64 0) ∧ IsRd w' R G l k' 0 ∧ Ok k' w2) ∨ ∃ c, e = .returned (.int .i64 c) ∧ IsRd w' R G l k c ∧ Bad c w2)

/-- What the closure of attempt does: the reading, of the reader that its variable holds. -/
theorem reading_any (F : FuncId) (caps : Array Value) (hF : ∀ (args : Array Value) (w : World), (callFunc F args).run Try.prog w = .ok (.enter F args) w) (A B R : Nat) (w : World) (K : Ending → World → Prop)
    (hA : w.heap[A]? = some (.cells #[.func (.func F) #[] caps] 98 (0, 0))) (hB : w.heap[B]? = some (.cells #[.pointer (some ⟨R, 0, none⟩)] 56 (0, 0)))
    (hK : Calls Try.prog F (#[.pointer (some ⟨R, 0, none⟩)] ++ caps) w K) (hret : ∀ e w', K e w' → e = .returned (.tuple #[]) ∨ ∃ ps, e = .panicked ps) :
    Calls Try.prog 61 #[.pointer (some ⟨A, 0, none⟩), .pointer (some ⟨B, 0, none⟩)] w K := by
  have cA : w.cell? ⟨A, 0, none⟩ = some (.func (.func F) #[] caps) := by rw [cell_of_heap hA]; rfl
  have cB : w.cell? ⟨B, 0, none⟩ = some (.pointer (some ⟨R, 0, none⟩)) := by rw [cell_of_heap hB]; rfl
  have HK := Lib.hid hK
  have HRet := Lib.hid hret
  clear hA hB hK hret
  go_enter Try.func61, Try.ntmps61
  go_wp2_with fail
  refine HK.out.mono ?_
  rintro e w' hk
  rcases HRet.out e w' hk with rfl | ⟨ps, rfl⟩
  · go_wp2
    go_end0
    exact hk
  · exact ⟨rfl, hk⟩

set_option maxHeartbeats 1000000 in
theorem attempt_any (F : FuncId) (caps : Array Value) (hF : ∀ (args : Array Value) (w : World), (callFunc F args).run Try.prog w = .ok (.enter F args) w)
    (R : Nat) (l : List UInt8) (k : Nat) (w : World) (h : IsRd w R G l k 0) (S : Nat → Prop) (Ok : Nat → World → Prop) (Bad : Int → World → Prop) (hSR : S R) (hS : ∀ b, S b → b < w.heap.size)
    (hread : ∀ w1, Below w.heap.size w w1 → w1.heap.size = w.heap.size + 3 → Calls Try.prog F (#[.pointer (some ⟨R, 0, none⟩)] ++ caps) w1 (Reads G R l S Ok Bad w1)) :
    Calls Try.prog 54 #[.pointer (some ⟨R, 0, none⟩), .func (.func F) #[] caps] w (Attempted G R l k S Ok Bad w) := by
  have hmf : ∀ (fn : Fn) (first cap : Array Value) (w : World), (Instr.makeFunc fn first cap).run Try.prog w = .ok (.func fn first cap) w := fun _ _ _ _ => rfl
  have HI := Lib.hid h
  have HRead := Lib.hid hread
  have HS := Lib.hid hS
  obtain ⟨b, cap, hRh, hkl, -⟩ := h
  have r1 : w.cell? ⟨R, 1, none⟩ = some (.int .i64 (k : Int)) := by rw [cell_of_heap hRh]; rfl
  have r2 : w.cell? ⟨R, 2, none⟩ = some (.int .i64 0) := by rw [cell_of_heap hRh]; rfl
  have sR : R < w.heap.size := (Array.getElem?_eq_some_iff.1 hRh).1
  have m4 : ¬ w.heap.size = R := by omega
  clear hRh hread hS
  go_enter Try.func54, Try.ntmps54
  go_wp2_with fail
  obtain ⟨w0, hw0⟩ : ∃ w0, w0 = (w.alloc (.cells #[.pointer (some ⟨R, 0, none⟩)] 56)).alloc (.cells #[.func (.func F) #[] caps] 98) := ⟨_, rfl⟩
  rw [← hw0]
  have hb0 : Below w.heap.size w w0 := by rw [hw0]; exact ((Below.refl _ w).alloc (Nat.le_refl _) _).alloc (by simp) _
  have hs0 : w0.heap.size = w.heap.size + 2 := by rw [hw0]; simp
  have b0 : w0.heap[w.heap.size]? = some (.cells #[.pointer (some ⟨R, 0, none⟩)] 56 (0, 0)) := by
    rw [hw0, Below.heap_alloc _ _ _ (by simp)]; exact heap_alloc_new w _
  have a0 : w0.heap[w.heap.size + 1]? = some (.cells #[.func (.func F) #[] caps] 98 (0, 0)) := by
    rw [hw0]
    have := heap_alloc_new (w.alloc (.cells #[.pointer (some ⟨R, 0, none⟩)] 56)) (.cells #[.func (.func F) #[] caps] 98)
    simpa using this
  clear hw0
  have hC := caught_any 61 #[] #[.pointer (some ⟨w.heap.size + 1, 0, none⟩), .pointer (some ⟨w.heap.size, 0, none⟩)] (enters _ (by kernel_rfl)) w0
    (fun c w2 => OnlyS S w w2 ∧ (∃ k', IsRd w2 R G l k' 0 ∧ (c = 0 → Ok k' w2)) ∧ (c ≠ 0 → Bad c w2) ∧ w.heap.size + 3 ≤ w2.heap.size ∧ ∀ b, w.heap.size ≤ b → b < w.heap.size + 2 → w2.heap[b]? = w0.heap[b]?)
    (fun w1 hb1 hs1 => by
      have hbw : Below w.heap.size w w1 := hb0.trans (hb1.mono (by omega))
      refine (reading_any F caps hF (w.heap.size + 1) w.heap.size R w1 (Reads G R l S Ok Bad w1) ((hb1.block _ (by omega)).trans a0) ((hb1.block _ (by omega)).trans b0) (HRead.out w1 hbw (by omega)) ?_).mono ?_
      · rintro e w2 ⟨k', _, _, ⟨h, _⟩ | ⟨c, _, h, _⟩⟩
        · exact .inl h
        · exact .inr ⟨_, h⟩
      · rintro e w2 ⟨k', hr2, ho2, hcase⟩
        have hfar : ∀ b, w.heap.size ≤ b → b < w1.heap.size → w2.heap[b]? = w1.heap[b]? := fun b h1 h2 => ho2.block b h2 (fun hs => by have := HS.out b hs; omega)
        have hoW : OnlyS S w w2 := (OnlyS.of_below hbw (fun k hk _ => hk)).trans ho2
        have hsz := ho2.size
        have hkeep : ∀ b, w.heap.size ≤ b → b < w.heap.size + 2 → w2.heap[b]? = w0.heap[b]? := fun b h1 h2 => (hfar b h1 (by omega)).trans (hb1.block b (by omega))
        rcases hcase with ⟨rfl, hok⟩ | ⟨c, hc, rfl, hbad⟩
        · exact ⟨0, ⟨fun _ => rfl, fun h => absurd rfl h⟩, ⟨hoW, ⟨k', hr2, fun _ => hok⟩, fun h => absurd rfl h, by omega, hkeep⟩, hsz, hfar _ (by omega) (by omega)⟩
        · exact ⟨c, ⟨fun h => absurd h hc, fun _ => rfl⟩, ⟨hoW, ⟨k', hr2, fun h => absurd h hc⟩, fun _ => hbad, by omega, hkeep⟩, hsz, hfar _ (by omega) (by omega)⟩)
  have HC := Lib.hid hC
  have hsz0 := Lib.hid hs0
  have HB0 := Lib.hid b0
  clear hC hs0 b0 a0 hb0 r1 r2
  refine HC.out.mono ?_
  rintro e w3 ⟨c, w2, ⟨hoW, ⟨k', hr2, hok⟩, hbad, hsz, hkeep⟩, rfl, hsz2, ho3⟩
  rw [hsz0.out] at ho3
  have hR3 : IsRd w3 R G l k' 0 := hr2.only ho3 (fun b hb he => by have := HI.out.facts; omega) (by omega)
  have b3 : w3.heap[w.heap.size]? = some (.cells #[.pointer (some ⟨R, 0, none⟩)] 56 (0, 0)) := ((ho3.block _ (by omega) (by omega)).trans (hkeep _ (by omega) (by omega))).trans HB0.out
  have cB : w3.cell? ⟨w.heap.size, 0, none⟩ = some (.pointer (some ⟨R, 0, none⟩)) := by rw [cell_of_heap b3]; rfl
  have hto : OnlyS (fun b => b = R ∨ (w.heap.size ≤ b ∧ b < w.heap.size + 3)) w2 w3 := ho3.mono fun b _ hb => .inr (by omega)
  have hoT : OnlyS S w w3 := hoW.then ho3 fun b hb h => by omega
  have HR3 := Lib.hid hR3
  have HTo := Lib.hid hto
  have HoT := Lib.hid hoT
  have HSz := Lib.hid hsz
  clear hoW hr2 hkeep hsz2 ho3 b3 HC HB0 hR3 hto hoT hsz
  by_cases hc : c = 0
  · subst hc
    have HOk := Lib.hid (hok rfl)
    clear hok hbad
    go_wp2
    go_ret
    exact ⟨w2, HSz.out, HoT.out, HTo.out, .inl ⟨k', rfl, HR3.out, HOk.out⟩⟩
  · have i0 : (c != 0) = true := by simpa using hc
    have i1 : (c == 0) = false := by simpa using hc
    have HBad := Lib.hid (hbad hc)
    have HR4 := HR3.out
    obtain ⟨b', cap', hRh, -⟩ := HR4
    have r1 : w3.cell? ⟨R, 1, none⟩ = some (.int .i64 (k' : Int)) := by rw [cell_of_heap hRh]; rfl
    have r2 : w3.cell? ⟨R, 2, none⟩ = some (.int .i64 0) := by rw [cell_of_heap hRh]; rfl
    have f1 : w3.frozen? ⟨R, 1, none⟩ = false := free_of_heap hRh
    have f2 : w3.frozen? ⟨R, 2, none⟩ = false := free_of_heap hRh
    clear hok hbad hc hRh
    go_wp2
    go_region
    all_goals go_wp2
    all_goals go_ret
    all_goals exact ⟨w2, HSz.out, (HoT.out.setCell (p := ⟨R, 1, none⟩) (fun _ => hSR) _).setCell (p := ⟨R, 2, none⟩) (fun _ => hSR) _ |>.drew, (HTo.out.setCell (p := ⟨R, 1, none⟩) (fun _ => .inl rfl) _).setCell (p := ⟨R, 2, none⟩) (fun _ => .inl rfl) _ |>.drew, .inr ⟨c, rfl, stuck_step HR3.out hkl, HBad.out⟩⟩
end Go.Proofs.Ytidapdooiibfnaa

/- The reader's calls: a byte, a number, a text, the end. -/
namespace Go.Proofs.Ytidapdooiibfnaa
set_option maxRecDepth 20000
open Go.RowKit BinMath
variable {G : Nat}

set_option maxHeartbeats 400000 in
theorem attempt_stuck (F : FuncId) (caps : Array Value) (R : Nat) (l : List UInt8) (k : Nat) (st : Int) (w : World) (h : IsRd w R G l k st) (hst : st ≠ 0) :
    Calls Try.prog 54 #[.pointer (some ⟨R, 0, none⟩), .func (.func F) #[] caps] w fun e w' => e = .returned (.int .i64 st) ∧ Below w.heap.size w w' := by
  obtain ⟨b, cap, hRh, hkl, -⟩ := h
  have r2 : w.cell? ⟨R, 2, none⟩ = some (.int .i64 st) := by rw [cell_of_heap hRh]; rfl
  have sR : R < w.heap.size := (Array.getElem?_eq_some_iff.1 hRh).1
  have m4 : ¬ w.heap.size = R := by omega
  have hs : (st != 0) = true := by simpa using hst
  clear hRh hst
  go_enter Try.func54, Try.ntmps54
  go_wp2
  go_ret
  exact ⟨rfl, ((Below.refl _ w).alloc (Nat.le_refl _) _).alloc (by simp) _⟩

/-- A variable of the caller's: block N holds u, alone. -/
def OneVar (w : World) (N : Nat) (t : TypeId) (u : Value) : Prop := w.heap[N]? = some (.cells #[u] t (0, 0))

set_option maxHeartbeats 400000 in
theorem num1_any (R N : Nat) (l : List UInt8) (k : Nat) (w : World) (h : IsRd w R G l k 0) (hN : OneVar w N 22 (.int .u64 0)) (hne : N ≠ R) (hGN : G ≤ N) :
    Calls Try.prog 105 #[.pointer (some ⟨R, 0, none⟩), .pointer (some ⟨N, 0, none⟩)] w (Reads G R l (fun b => b = R ∨ b = N)
      (fun k' w2 => ∃ n u, pNum (l.drop k) = .ok (n, u) ∧ k' = k + u ∧ OneVar w2 N 22 (.int .u64 (n : Int)))
      (fun c w2 => ∃ c' : Nat, c = c' ∧ pNum (l.drop k) = .error c' ∧ OneVar w2 N 22 (.int .u64 0)) w) := by
  have hC := number_any l k R 0 w h
  have sN : N < w.heap.size := (Array.getElem?_eq_some_iff.1 hN).1
  go_enter Try.func105, Try.ntmps105
  go_wp2_with fail
  refine hC.mono ?_
  rintro e w2 ⟨k', hr, ho, hm⟩
  have hN2 : OneVar w2 N 22 (.int .u64 0) := (ho.block N sN hne).trans hN
  cases hp : pNum (l.drop k) with
  | error c =>
    rw [hp] at hm
    obtain rfl := hm
    exact ⟨rfl, k', hr, OnlyS.of_only ho (.inl rfl), .inr ⟨_, by have := pNum_code hp; omega, rfl, c, rfl, hp, hN2⟩⟩
  | ok p =>
    obtain ⟨n, u⟩ := p
    rw [hp] at hm
    obtain ⟨rfl, rfl⟩ := hm
    have cN : w2.cell? ⟨N, 0, none⟩ = some (.int .u64 0) := by rw [cell_of_heap hN2]; rfl
    have fN : w2.frozen? ⟨N, 0, none⟩ = false := free_of_heap hN2
    have HP := Lib.hid hp
    have HR := Lib.hid hr
    have HO := Lib.hid ho
    have HN := Lib.hid hN2
    clear hp hr ho hN2 hC hN
    go_wp2
    go_end0
    refine ⟨k + u, HR.out.only (S := fun b => b = N) ((OnlyS.refl (fun b => b = N) _).setCell (p := ⟨N, 0, none⟩) (fun _ => rfl) _) (fun b hb he => by omega) (fun he => hne he.symm), (OnlyS.of_only HO.out (.inl rfl)).setCell (p := ⟨N, 0, none⟩) (fun _ => .inr rfl) _, .inl ⟨rfl, n, u, HP.out, rfl, ?_⟩⟩
    exact heap_set_same HN.out _

set_option maxHeartbeats 400000 in
theorem byte1_any (R N : Nat) (l : List UInt8) (k : Nat) (w : World) (h : IsRd w R G l k 0) (hN : OneVar w N 5 (.int .u8 0)) (hne : N ≠ R) (hGN : G ≤ N) :
    Calls Try.prog 107 #[.pointer (some ⟨R, 0, none⟩), .pointer (some ⟨N, 0, none⟩)] w (Reads G R l (fun b => b = R ∨ b = N)
      (fun k' w2 => ∃ h : k < l.length, k' = k + 1 ∧ OneVar w2 N 5 (bv l[k]))
      (fun c w2 => c = 2 ∧ k = l.length ∧ OneVar w2 N 5 (.int .u8 0)) w) := by
  have sN : N < w.heap.size := (Array.getElem?_eq_some_iff.1 hN).1
  have hf := h.facts
  by_cases hk : k < l.length
  · have hC := next_some l k R 0 w h hk
    obtain ⟨y, hy⟩ : ∃ y, y = l[k].toNat := ⟨_, rfl⟩
    unfold bv at hC ⊢
    have HY := Lib.hid hy
    have hC' : Calls Try.prog 108 #[.pointer (some ⟨R, 0, none⟩)] w fun e w' => e = .returned (.int .u8 (y : Int)) ∧ IsRd w' R G l (k + 1) 0 ∧ Only R w w' := by rw [hy]; exact hC
    clear hC hy
    go_enter Try.func107, Try.ntmps107
    go_wp2_with fail
    refine hC'.mono ?_
    rintro e w2 ⟨rfl, hr, ho⟩
    have hN2 : OneVar w2 N 5 (.int .u8 0) := (ho.block N sN hne).trans hN
    have cN : w2.cell? ⟨N, 0, none⟩ = some (.int .u8 0) := by rw [cell_of_heap hN2]; rfl
    have fN : w2.frozen? ⟨N, 0, none⟩ = false := free_of_heap hN2
    have HR := Lib.hid hr
    have HO := Lib.hid ho
    have HN := Lib.hid hN2
    clear hr ho hN2 hC' hN
    go_wp2
    go_end0
    refine ⟨k + 1, HR.out.only (S := fun b => b = N) ((OnlyS.refl (fun b => b = N) _).setCell (p := ⟨N, 0, none⟩) (fun _ => rfl) _) (fun b hb he => by omega) (fun he => hne he.symm), (OnlyS.of_only HO.out (.inl rfl)).setCell (p := ⟨N, 0, none⟩) (fun _ => .inr rfl) _, .inl ⟨rfl, hk, rfl, ?_⟩⟩
    rw [← HY.out]
    exact heap_set_same HN.out _
  · have hC := next_none l k R 0 w h (by omega)
    go_enter Try.func107, Try.ntmps107
    go_wp2_with fail
    refine hC.mono ?_
    rintro e w2 ⟨rfl, n, rfl⟩
    exact ⟨rfl, k, h.drewN n, OnlyS.of_only ((Only.refl R w).drewN n) (.inl rfl), .inr ⟨_, by decide, rfl, rfl, by omega, hN⟩⟩

/-- A row is where it was. -/
theorem row_only {w w' : World} {B : Nat} {v : Value} {l : List UInt8} (h : Row w B v l) (hk : ∀ g, B ≤ g → w'.heap[g]? = w.heap[g]?) : Row w' B v l := by
  refine ⟨h.1, ?_⟩
  rcases h.2 with h2 | ⟨g, cap, cur, hv, hB, hg, r⟩
  · exact .inl h2
  · exact .inr ⟨g, cap, cur, hv, hB, by rw [hk g hB]; exact hg, r⟩

set_option maxHeartbeats 400000 in
theorem raw1_any (R M N : Nat) (l : List UInt8) (k : Nat) (most : Int) (w : World) (h : IsRd w R G l k 0) (hm : -9223372036854775808 ≤ most ∧ most ≤ 9223372036854775807) (hM : OneVar w M 3 (.int .i64 most)) (hN : OneVar w N 25 (.slice none 0 0)) (hne : N ≠ R) (hGN : G ≤ N) :
    Calls Try.prog 109 #[.pointer (some ⟨R, 0, none⟩), .pointer (some ⟨M, 0, none⟩), .pointer (some ⟨N, 0, none⟩)] w (Reads G R l (fun b => b = R ∨ b = N)
      (fun k' w2 => ∃ t u v, pText most.toNat (l.drop k) = .ok (t, u) ∧ k' = k + u ∧ OneVar w2 N 25 v ∧ Row w2 w.heap.size v t)
      (fun c w2 => ∃ c' : Nat, c = c' ∧ pText most.toNat (l.drop k) = .error c' ∧ OneVar w2 N 25 (.slice none 0 0)) w) := by
  have hC := text_any l k R 0 most w h hm
  have sN : N < w.heap.size := (Array.getElem?_eq_some_iff.1 hN).1
  have cM : w.cell? ⟨M, 0, none⟩ = some (.int .i64 most) := by rw [cell_of_heap hM]; rfl
  clear hm
  go_enter Try.func109, Try.ntmps109
  go_wp2_with fail
  refine hC.mono ?_
  rintro e w2 ⟨k', hr, ho, hm⟩
  have hN2 : OneVar w2 N 25 (.slice none 0 0) := (ho.block N sN hne).trans hN
  cases hp : pText most.toNat (l.drop k) with
  | error c =>
    rw [hp] at hm
    obtain rfl := hm
    exact ⟨rfl, k', hr, OnlyS.of_only ho (.inl rfl), .inr ⟨_, by have := pText_code hp; omega, rfl, c, rfl, hp, hN2⟩⟩
  | ok p =>
    obtain ⟨t, u⟩ := p
    rw [hp] at hm
    obtain ⟨⟨v, rfl, hrow⟩, rfl⟩ := hm
    have cN : w2.cell? ⟨N, 0, none⟩ = some (.slice none 0 0) := by rw [cell_of_heap hN2]; rfl
    have fN : w2.frozen? ⟨N, 0, none⟩ = false := free_of_heap hN2
    obtain ⟨a, tl, cap, rfl⟩ : ∃ a tl cap, v = .slice a tl cap := by
      rcases hrow.2 with ⟨hv, _⟩ | ⟨g, cap, cur, hv, _⟩ <;> exact ⟨_, _, _, hv⟩
    have HP := Lib.hid hp
    have HR := Lib.hid hr
    have HO := Lib.hid ho
    have HN := Lib.hid hN2
    have HRow := Lib.hid hrow
    clear hp hr ho hN2 hC hN hrow
    go_wp2
    go_end0
    refine ⟨k + u, HR.out.only (S := fun b => b = N) ((OnlyS.refl (fun b => b = N) _).setCell (p := ⟨N, 0, none⟩) (fun _ => rfl) _) (fun b hb he => by omega) (fun he => hne he.symm), (OnlyS.of_only HO.out (.inl rfl)).setCell (p := ⟨N, 0, none⟩) (fun _ => .inr rfl) _, .inl ⟨rfl, t, u, _, HP.out, rfl, heap_set_same HN.out _, ?_⟩⟩
    exact row_only HRow.out (fun g hg => heap_set_other (by omega) _)

set_option maxHeartbeats 400000 in
theorem end1_any (R : Nat) (l : List UInt8) (k : Nat) (w : World) (h : IsRd w R G l k 0) :
    Calls Try.prog 55 #[.pointer (some ⟨R, 0, none⟩)] w (Reads G R l (fun b => b = R) (fun k' _ => k' = k ∧ k = l.length) (fun c _ => c = 5 ∧ k < l.length) w) := by
  have hC := left_any l k 0 R w h
  have hf := h.facts
  by_cases hk : k < l.length
  · obtain ⟨m, hm⟩ : ∃ m, m + 1 = l.length - k := ⟨l.length - k - 1, by omega⟩
    rw [← hm] at hC
    go_enter Try.func55, Try.ntmps55
    go_wp2_with fail
    refine hC.mono ?_
    rintro e w2 ⟨rfl, n, rfl⟩
    go_wp2_with (go_at_call 32; refine (quit_bad _ (by decide) _).mono ?_; rintro e w3 ⟨rfl, rfl⟩)
    exact ⟨rfl, k, h.drewN n, OnlyS.of_only ((Only.refl R w).drewN n) rfl, .inr ⟨_, by decide, rfl, rfl, hk⟩⟩
  · have e0 : l.length - k = 0 := by omega
    rw [e0] at hC
    go_enter Try.func55, Try.ntmps55
    go_wp2_with fail
    refine hC.mono ?_
    rintro e w2 ⟨rfl, n, rfl⟩
    go_wp2
    go_end0
    exact ⟨k, h.drewN n, OnlyS.of_only ((Only.refl R w).drewN n) rfl, .inl ⟨rfl, rfl, by omega⟩⟩


/-- How a call of the reader ends: v the value, c the error, k' the place behind. -/
def Answers (G R : Nat) (l : List UInt8) (w : World) (v : Value) (c k' : Nat) (e : Ending) (w' : World) : Prop :=
  Only R w w' ∧ e = .returned (.tuple #[v, .int .i64 (c : Int)]) ∧ IsRd w' R G l k' c

set_option maxHeartbeats 400000 in
theorem rdNum_ok (R : Nat) (l : List UInt8) (k : Nat) (w : World) (h : IsRd w R G l k 0) :
    Calls Try.prog 99 #[.pointer (some ⟨R, 0, none⟩)] w (Answers G R l w (.int .u64 ((numS l k 0).1 : Int)) (numS l k 0).2.1 (numS l k 0).2.2) := by
  have hmf : ∀ (fn : Fn) (first cap : Array Value) (w : World), (Instr.makeFunc fn first cap).run Try.prog w = .ok (.func fn first cap) w := fun _ _ _ _ => rfl
  have hf := h.facts
  have hA := attempt_any 105 #[.pointer (some ⟨w.heap.size, 0, none⟩)] (enters _ (by kernel_rfl)) R l k (w.alloc (.cells #[.int .u64 0] 22)) (h.below ((Below.refl _ _).alloc (Nat.le_refl _) _)) (fun b => b = R ∨ b = w.heap.size) _ _ (.inl rfl)
    (fun b hb => by rw [World.size_alloc]; omega)
    (fun w1 hb1 hs1 => by
      have hN : OneVar w1 w.heap.size 22 (.int .u64 0) := by
        unfold OneVar
        rw [hb1.block _ (by simp)]
        exact heap_alloc_new w _
      exact num1_any R w.heap.size l k w1 ((h.below ((Below.refl _ _).alloc (Nat.le_refl _) _)).below hb1) hN (by omega) hf.2.2.2)
  have HA := Lib.hid hA
  clear hA
  obtain ⟨n, c, k0, hq⟩ : ∃ n c k0, numS l k 0 = (n, c, k0) := ⟨_, _, _, rfl⟩
  have HQ := Lib.hid hq
  rw [hq]
  clear hq
  go_enter Try.func99, Try.ntmps99
  go_wp2_with fail
  refine HA.out.mono ?_
  rintro e w' ⟨w2, hsz, ho, ho2, hcase⟩
  have hN' : w'.heap[w.heap.size]? = w2.heap[w.heap.size]? := ho2.block _ (by rw [World.size_alloc] at hsz; omega) (by rw [World.size_alloc]; omega)
  have hon : Only R w w' := (OnlyS.then (S := fun b => b = R) (OnlyS.of_below ((Below.refl _ w).alloc (Nat.le_refl _) _) (fun _ hk _ => hk)) ho (fun b hb h => by omega)).only (fun b _ h => h)
  have hall : e = .returned (.int .i64 (c : Int)) ∧ IsRd w' R G l k0 c ∧ OneVar w' w.heap.size 22 (.int .u64 (n : Int)) := by
    have hq := HQ.out
    rcases hcase with ⟨k', rfl, hr, m, u, hp, rfl, hv⟩ | ⟨d, rfl, hr, d', rfl, hp, hv⟩
    · simp only [numS, hp] at hq
      cases hq
      exact ⟨rfl, hr, hN'.trans hv⟩
    · simp only [numS, hp] at hq
      cases hq
      exact ⟨rfl, hr, hN'.trans hv⟩
  obtain ⟨rfl, hr, hv⟩ := hall
  have cN : w'.cell? ⟨w.heap.size, 0, none⟩ = some (.int .u64 (n : Int)) := by rw [cell_of_heap hv]; rfl
  have fN : w'.frozen? ⟨w.heap.size, 0, none⟩ = false := free_of_heap hv
  have HV := Lib.hid hv
  have HR := Lib.hid hr
  have HO := Lib.hid hon
  clear ho ho2 hcase hN' hon hv hr HA hsz
  go_wp2
  have cE : (w'.setCell ⟨w.heap.size, 0, none⟩ (.int .u64 (n : Int))).cell? ⟨w.heap.size, 0, none⟩ = some (.int .u64 (n : Int)) := by rw [cell_of_heap (heap_set_same HV.out _)]; rfl
  refine bodyPost_ret (v := .tuple #[.int .u64 (n : Int), .int .i64 (c : Int)]) (by simp [results, Try.results99, go_sem, cE]) rfl ⟨HO.out.setNew (Nat.le_refl _) _, rfl, ?_⟩
  exact HR.out.only (S := fun b => b = w.heap.size) ((OnlyS.refl (fun b => b = w.heap.size) _).setCell (p := ⟨w.heap.size, 0, none⟩) (fun _ => rfl) _) (fun b hb he => by omega) (by omega)

set_option maxHeartbeats 400000 in
theorem rdNum_stuck (R : Nat) (l : List UInt8) (k st : Nat) (w : World) (h : IsRd w R G l k st) (hst : st ≠ 0) :
    Calls Try.prog 99 #[.pointer (some ⟨R, 0, none⟩)] w (Answers G R l w (.int .u64 0) st k) := by
  have hmf : ∀ (fn : Fn) (first cap : Array Value) (w : World), (Instr.makeFunc fn first cap).run Try.prog w = .ok (.func fn first cap) w := fun _ _ _ _ => rfl
  have hf := h.facts
  have hA := attempt_stuck (G := G) 105 #[.pointer (some ⟨w.heap.size, 0, none⟩)] R l k st (w.alloc (.cells #[.int .u64 0] 22)) (h.below ((Below.refl _ _).alloc (Nat.le_refl _) _)) (by omega)
  have HA := Lib.hid hA
  have HI := Lib.hid h
  clear hA h hst
  go_enter Try.func99, Try.ntmps99
  go_wp2_with fail
  refine HA.out.mono ?_
  rintro e w' ⟨rfl, hb⟩
  have hv : OneVar w' w.heap.size 22 (.int .u64 0) := by
    unfold OneVar
    rw [hb.block _ (by simp)]
    exact heap_alloc_new w _
  have hbw : Below w.heap.size w w' := ((Below.refl _ w).alloc (Nat.le_refl _) _).trans (hb.mono (by simp))
  have cN : w'.cell? ⟨w.heap.size, 0, none⟩ = some (.int .u64 0) := by rw [cell_of_heap hv]; rfl
  have fN : w'.frozen? ⟨w.heap.size, 0, none⟩ = false := free_of_heap hv
  have HV := Lib.hid hv
  have HO := Lib.hid hbw
  clear hb hbw hv HA
  go_wp2
  have cE : (w'.setCell ⟨w.heap.size, 0, none⟩ (.int .u64 0)).cell? ⟨w.heap.size, 0, none⟩ = some (.int .u64 0) := by rw [cell_of_heap (heap_set_same HV.out _)]; rfl
  have hbf := HO.out.setCell (p := ⟨w.heap.size, 0, none⟩) (Nat.le_refl _) (.int .u64 0)
  exact bodyPost_ret (v := .tuple #[.int .u64 0, .int .i64 (st : Int)]) (by simp [results, Try.results99, go_sem, cE]) rfl ⟨Only.of_below hbf, rfl, HI.out.below hbf⟩

theorem rdNum_any (R : Nat) (l : List UInt8) (k st : Nat) (w : World) (h : IsRd w R G l k st) :
    Calls Try.prog 99 #[.pointer (some ⟨R, 0, none⟩)] w (Answers G R l w (.int .u64 ((numS l k st).1 : Int)) (numS l k st).2.1 (numS l k st).2.2) := by
  by_cases hst : st = 0
  · subst hst
    exact rdNum_ok R l k w h
  · have e : numS l k st = (0, st, k) := if_pos hst
    rw [e]
    exact rdNum_stuck R l k st w h hst

set_option maxHeartbeats 400000 in
theorem rdByte_ok (R : Nat) (l : List UInt8) (k : Nat) (w : World) (h : IsRd w R G l k 0) :
    Calls Try.prog 101 #[.pointer (some ⟨R, 0, none⟩)] w (Answers G R l w (.int .u8 ((byteS l k 0).1 : Int)) (byteS l k 0).2.1 (byteS l k 0).2.2) := by
  have hmf : ∀ (fn : Fn) (first cap : Array Value) (w : World), (Instr.makeFunc fn first cap).run Try.prog w = .ok (.func fn first cap) w := fun _ _ _ _ => rfl
  have hf := h.facts
  have hA := attempt_any 107 #[.pointer (some ⟨w.heap.size, 0, none⟩)] (enters _ (by kernel_rfl)) R l k (w.alloc (.cells #[.int .u8 0] 5)) (h.below ((Below.refl _ _).alloc (Nat.le_refl _) _)) (fun b => b = R ∨ b = w.heap.size) _ _ (.inl rfl)
    (fun b hb => by rw [World.size_alloc]; omega)
    (fun w1 hb1 hs1 => by
      have hN : OneVar w1 w.heap.size 5 (.int .u8 0) := by
        unfold OneVar
        rw [hb1.block _ (by simp)]
        exact heap_alloc_new w _
      exact byte1_any R w.heap.size l k w1 ((h.below ((Below.refl _ _).alloc (Nat.le_refl _) _)).below hb1) hN (by omega) hf.2.2.2)
  have HA := Lib.hid hA
  clear hA
  obtain ⟨n, c, k0, hq⟩ : ∃ n c k0, byteS l k 0 = (n, c, k0) := ⟨_, _, _, rfl⟩
  have HQ := Lib.hid hq
  rw [hq]
  clear hq
  go_enter Try.func101, Try.ntmps101
  go_wp2_with fail
  refine HA.out.mono ?_
  rintro e w' ⟨w2, hsz, ho, ho2, hcase⟩
  have hN' : w'.heap[w.heap.size]? = w2.heap[w.heap.size]? := ho2.block _ (by rw [World.size_alloc] at hsz; omega) (by rw [World.size_alloc]; omega)
  have hon : Only R w w' := (OnlyS.then (S := fun b => b = R) (OnlyS.of_below ((Below.refl _ w).alloc (Nat.le_refl _) _) (fun _ hk _ => hk)) ho (fun b hb h => by omega)).only (fun b _ h => h)
  have hall : e = .returned (.int .i64 (c : Int)) ∧ IsRd w' R G l k0 c ∧ OneVar w' w.heap.size 5 (.int .u8 (n : Int)) := by
    have hq := HQ.out
    rcases hcase with ⟨k', rfl, hr, hlt, rfl, hv⟩ | ⟨d, rfl, hr, rfl, hlt, hv⟩
    · simp only [byteS, List.drop_eq_getElem_cons hlt] at hq
      cases hq
      exact ⟨rfl, hr, hN'.trans hv⟩
    · simp only [byteS, List.drop_eq_nil_of_le (Nat.le_of_eq hlt.symm)] at hq
      cases hq
      exact ⟨rfl, hr, hN'.trans hv⟩
  obtain ⟨rfl, hr, hv⟩ := hall
  have cN : w'.cell? ⟨w.heap.size, 0, none⟩ = some (.int .u8 (n : Int)) := by rw [cell_of_heap hv]; rfl
  have fN : w'.frozen? ⟨w.heap.size, 0, none⟩ = false := free_of_heap hv
  have HV := Lib.hid hv
  have HR := Lib.hid hr
  have HO := Lib.hid hon
  clear ho ho2 hcase hN' hon hv hr HA hsz
  go_wp2
  have cE : (w'.setCell ⟨w.heap.size, 0, none⟩ (.int .u8 (n : Int))).cell? ⟨w.heap.size, 0, none⟩ = some (.int .u8 (n : Int)) := by rw [cell_of_heap (heap_set_same HV.out _)]; rfl
  refine bodyPost_ret (v := .tuple #[.int .u8 (n : Int), .int .i64 (c : Int)]) (by simp [results, Try.results101, go_sem, cE]) rfl ⟨HO.out.setNew (Nat.le_refl _) _, rfl, ?_⟩
  exact HR.out.only (S := fun b => b = w.heap.size) ((OnlyS.refl (fun b => b = w.heap.size) _).setCell (p := ⟨w.heap.size, 0, none⟩) (fun _ => rfl) _) (fun b hb he => by omega) (by omega)

set_option maxHeartbeats 400000 in
theorem rdByte_stuck (R : Nat) (l : List UInt8) (k st : Nat) (w : World) (h : IsRd w R G l k st) (hst : st ≠ 0) :
    Calls Try.prog 101 #[.pointer (some ⟨R, 0, none⟩)] w (Answers G R l w (.int .u8 0) st k) := by
  have hmf : ∀ (fn : Fn) (first cap : Array Value) (w : World), (Instr.makeFunc fn first cap).run Try.prog w = .ok (.func fn first cap) w := fun _ _ _ _ => rfl
  have hf := h.facts
  have hA := attempt_stuck (G := G) 107 #[.pointer (some ⟨w.heap.size, 0, none⟩)] R l k st (w.alloc (.cells #[.int .u8 0] 5)) (h.below ((Below.refl _ _).alloc (Nat.le_refl _) _)) (by omega)
  have HA := Lib.hid hA
  have HI := Lib.hid h
  clear hA h hst
  go_enter Try.func101, Try.ntmps101
  go_wp2_with fail
  refine HA.out.mono ?_
  rintro e w' ⟨rfl, hb⟩
  have hv : OneVar w' w.heap.size 5 (.int .u8 0) := by
    unfold OneVar
    rw [hb.block _ (by simp)]
    exact heap_alloc_new w _
  have hbw : Below w.heap.size w w' := ((Below.refl _ w).alloc (Nat.le_refl _) _).trans (hb.mono (by simp))
  have cN : w'.cell? ⟨w.heap.size, 0, none⟩ = some (.int .u8 0) := by rw [cell_of_heap hv]; rfl
  have fN : w'.frozen? ⟨w.heap.size, 0, none⟩ = false := free_of_heap hv
  have HV := Lib.hid hv
  have HO := Lib.hid hbw
  clear hb hbw hv HA
  go_wp2
  have cE : (w'.setCell ⟨w.heap.size, 0, none⟩ (.int .u8 0)).cell? ⟨w.heap.size, 0, none⟩ = some (.int .u8 0) := by rw [cell_of_heap (heap_set_same HV.out _)]; rfl
  have hbf := HO.out.setCell (p := ⟨w.heap.size, 0, none⟩) (Nat.le_refl _) (.int .u8 0)
  exact bodyPost_ret (v := .tuple #[.int .u8 0, .int .i64 (st : Int)]) (by simp [results, Try.results101, go_sem, cE]) rfl ⟨Only.of_below hbf, rfl, HI.out.below hbf⟩

theorem rdByte_any (R : Nat) (l : List UInt8) (k st : Nat) (w : World) (h : IsRd w R G l k st) :
    Calls Try.prog 101 #[.pointer (some ⟨R, 0, none⟩)] w (Answers G R l w (.int .u8 ((byteS l k st).1 : Int)) (byteS l k st).2.1 (byteS l k st).2.2) := by
  by_cases hst : st = 0
  · subst hst
    exact rdByte_ok R l k w h
  · have e : byteS l k st = (0, st, k) := if_pos hst
    rw [e]
    exact rdByte_stuck R l k st w h hst

end Go.Proofs.Ytidapdooiibfnaa

/- The reader's calls: a text, the end, a new reader. -/
namespace Go.Proofs.Ytidapdooiibfnaa
set_option maxRecDepth 20000
open Go.RowKit BinMath
variable {G : Nat}

/-- How a reading of a text ends: t the text, c the error, k' the place behind. -/
def TextAnswers (G R : Nat) (l : List UInt8) (w : World) (t : List UInt8) (c k' : Nat) (e : Ending) (w' : World) : Prop :=
  Only R w w' ∧ ∃ v, e = .returned (.tuple #[v, .int .i64 (c : Int)]) ∧ Row w' w.heap.size v t ∧ IsRd w' R G l k' c

set_option maxHeartbeats 400000 in
theorem rdRaw_ok (R : Nat) (l : List UInt8) (k : Nat) (most : Int) (hm : -9223372036854775808 ≤ most ∧ most ≤ 9223372036854775807) (w : World) (h : IsRd w R G l k 0) :
    Calls Try.prog 102 #[.pointer (some ⟨R, 0, none⟩), .int .i64 most] w (TextAnswers G R l w (textS l most.toNat k 0).1 (textS l most.toNat k 0).2.1 (textS l most.toNat k 0).2.2) := by
  have hmf : ∀ (fn : Fn) (first cap : Array Value) (w : World), (Instr.makeFunc fn first cap).run Try.prog w = .ok (.func fn first cap) w := fun _ _ _ _ => rfl
  have hf := h.facts
  obtain ⟨w0, hw0⟩ : ∃ w0, w0 = (w.alloc (.cells #[.int .i64 most] 3)).alloc (.cells #[.slice none 0 0] 25) := ⟨_, rfl⟩
  have hb0 : Below w.heap.size w w0 := by rw [hw0]; exact ((Below.refl _ _).alloc (Nat.le_refl _) _).alloc (by simp) _
  have hs0 : w0.heap.size = w.heap.size + 2 := by rw [hw0]; simp
  have hM : OneVar w0 w.heap.size 3 (.int .i64 most) := by
    unfold OneVar
    rw [hw0, Below.heap_alloc _ _ _ (by simp)]
    exact heap_alloc_new w _
  have hN : OneVar w0 (w.heap.size + 1) 25 (.slice none 0 0) := by
    unfold OneVar
    rw [hw0]
    have := heap_alloc_new (w.alloc (.cells #[.int .i64 most] 3)) (.cells #[.slice none 0 0] 25)
    simpa using this
  have hA := attempt_any 109 #[.pointer (some ⟨w.heap.size, 0, none⟩), .pointer (some ⟨w.heap.size + 1, 0, none⟩)] (enters _ (by kernel_rfl)) R l k w0 (h.below hb0) (fun b => b = R ∨ b = w.heap.size + 1)
    (fun k' w2 => ∃ t u v, pText most.toNat (l.drop k) = .ok (t, u) ∧ k' = k + u ∧ OneVar w2 (w.heap.size + 1) 25 v ∧ Row w2 (w0.heap.size + 3) v t) _ (.inl rfl)
    (fun b hb => by rw [hs0]; omega)
    (fun w1 hb1 hs1 => by
      have := raw1_any R w.heap.size (w.heap.size + 1) l k most w1 ((h.below hb0).below hb1) hm ((hb1.block _ (by omega)).trans hM) ((hb1.block _ (by omega)).trans hN) (by omega) (by omega)
      rw [hs1] at this
      exact this)
  have HA := Lib.hid hA
  have HB0 := Lib.hid hb0
  clear hA hm hM hN hb0
  obtain ⟨t, c, k0, hq⟩ : ∃ t c k0, textS l most.toNat k 0 = (t, c, k0) := ⟨_, _, _, rfl⟩
  have HQ := Lib.hid hq
  rw [hq]
  clear hq
  go_enter Try.func102, Try.ntmps102
  go_wp2_with fail
  rw [← hw0]
  refine HA.out.mono ?_
  rintro e w' ⟨w2, hsz, ho, ho2, hcase⟩
  have hN' : w'.heap[w.heap.size + 1]? = w2.heap[w.heap.size + 1]? := ho2.block _ (by omega) (by omega)
  have hon : Only R w w' := (OnlyS.then (S := fun b => b = R) (OnlyS.of_below HB0.out (fun _ hk _ => hk)) ho (fun b hb h => by omega)).only (fun b _ h => h)
  have hall : ∃ v, e = .returned (.int .i64 (c : Int)) ∧ IsRd w' R G l k0 c ∧ OneVar w' (w.heap.size + 1) 25 v ∧ Row w' (w.heap.size + 2) v t := by
    have hq := HQ.out
    rcases hcase with ⟨k', rfl, hr, t', u, v, hp, rfl, hv, hrow⟩ | ⟨d, rfl, hr, d', rfl, hp, hv⟩
    · simp only [textS, hp] at hq
      cases hq
      refine ⟨v, rfl, hr, hN'.trans hv, ?_⟩
      have h1 : Row w' (w0.heap.size + 3) v t := by
        refine ⟨hrow.1, ?_⟩
        rcases hrow.2 with h2 | ⟨g, cap, cur, hv2, hB, hg, r⟩
        · exact .inl h2
        · exact .inr ⟨g, cap, cur, hv2, hB, by rw [ho2.block g (Array.getElem?_eq_some_iff.1 hg).1 (by omega)]; exact hg, r⟩
      exact ⟨h1.1, h1.2.imp id fun ⟨g, cap, cur, hv2, hB, r⟩ => ⟨g, cap, cur, hv2, by omega, r⟩⟩
    · simp only [textS, hp] at hq
      cases hq
      exact ⟨_, rfl, hr, hN'.trans hv, World.ownsRow_nil _ _ _ _⟩
  obtain ⟨v, rfl, hr, hv, hrow⟩ := hall
  obtain ⟨a, cap, rfl⟩ := slice_of_row hrow
  have cN : w'.cell? ⟨w.heap.size + 1, 0, none⟩ = some (.slice a t.length cap) := by rw [cell_of_heap hv]; rfl
  have fN : w'.frozen? ⟨w.heap.size + 1, 0, none⟩ = false := free_of_heap hv
  have HV := Lib.hid hv
  have HR := Lib.hid hr
  have HO := Lib.hid hon
  have HRow := Lib.hid hrow
  clear ho ho2 hcase hN' hon hv hr HA hsz hrow hw0 hs0
  go_wp2
  have cE : (w'.setCell ⟨w.heap.size + 1, 0, none⟩ (.slice a t.length cap)).cell? ⟨w.heap.size + 1, 0, none⟩ = some (.slice a t.length cap) := by rw [cell_of_heap (heap_set_same HV.out _)]; rfl
  refine bodyPost_ret (v := .tuple #[.slice a t.length cap, .int .i64 (c : Int)]) (by simp [results, Try.results102, go_sem, cE]) rfl ⟨HO.out.setNew (by simp) _, _, rfl, ?_, ?_⟩
  · have h1 := row_only HRow.out (w' := w'.setCell ⟨w.heap.size + 1, 0, none⟩ (.slice a t.length cap)) (fun g hg => heap_set_other (by omega) _)
    exact ⟨h1.1, h1.2.imp id fun ⟨g, cap, cur, hv2, hB, r⟩ => ⟨g, cap, cur, hv2, by omega, r⟩⟩
  · exact HR.out.only (S := fun b => b = w.heap.size + 1) ((OnlyS.refl (fun b => b = w.heap.size + 1) _).setCell (p := ⟨w.heap.size + 1, 0, none⟩) (fun _ => rfl) _) (fun b hb he => by omega) (by omega)

set_option maxHeartbeats 400000 in
theorem rdRaw_stuck (R : Nat) (l : List UInt8) (k st : Nat) (most : Int) (w : World) (h : IsRd w R G l k st) (hst : st ≠ 0) :
    Calls Try.prog 102 #[.pointer (some ⟨R, 0, none⟩), .int .i64 most] w (TextAnswers G R l w [] st k) := by
  have hmf : ∀ (fn : Fn) (first cap : Array Value) (w : World), (Instr.makeFunc fn first cap).run Try.prog w = .ok (.func fn first cap) w := fun _ _ _ _ => rfl
  have hf := h.facts
  obtain ⟨w0, hw0⟩ : ∃ w0, w0 = (w.alloc (.cells #[.int .i64 most] 3)).alloc (.cells #[.slice none 0 0] 25) := ⟨_, rfl⟩
  have hb0 : Below w.heap.size w w0 := by rw [hw0]; exact ((Below.refl _ _).alloc (Nat.le_refl _) _).alloc (by simp) _
  have hs0 : w0.heap.size = w.heap.size + 2 := by rw [hw0]; simp
  have hN : OneVar w0 (w.heap.size + 1) 25 (.slice none 0 0) := by
    unfold OneVar
    rw [hw0]
    have := heap_alloc_new (w.alloc (.cells #[.int .i64 most] 3)) (.cells #[.slice none 0 0] 25)
    simpa using this
  have hA := attempt_stuck (G := G) 109 #[.pointer (some ⟨w.heap.size, 0, none⟩), .pointer (some ⟨w.heap.size + 1, 0, none⟩)] R l k st w0 (h.below hb0) (by omega)
  have HA := Lib.hid hA
  have HI := Lib.hid h
  have HN := Lib.hid hN
  have HB0 := Lib.hid hb0
  clear hA h hst hN hb0
  go_enter Try.func102, Try.ntmps102
  go_wp2_with fail
  rw [← hw0]
  refine HA.out.mono ?_
  rintro e w' ⟨rfl, hb⟩
  have hv : OneVar w' (w.heap.size + 1) 25 (.slice none 0 0) := (hb.block _ (by omega)).trans HN.out
  have hbw : Below w.heap.size w w' := HB0.out.trans (hb.mono (by omega))
  have cN : w'.cell? ⟨w.heap.size + 1, 0, none⟩ = some (.slice none 0 0) := by rw [cell_of_heap hv]; rfl
  have fN : w'.frozen? ⟨w.heap.size + 1, 0, none⟩ = false := free_of_heap hv
  have HV := Lib.hid hv
  have HO := Lib.hid hbw
  clear hb hbw hv HA hw0 hs0
  go_wp2
  have cE : (w'.setCell ⟨w.heap.size + 1, 0, none⟩ (.slice none 0 0)).cell? ⟨w.heap.size + 1, 0, none⟩ = some (.slice none 0 0) := by rw [cell_of_heap (heap_set_same HV.out _)]; rfl
  have hbf := HO.out.setCell (p := ⟨w.heap.size + 1, 0, none⟩) (by simp) (.slice none 0 0)
  exact bodyPost_ret (v := .tuple #[.slice none 0 0, .int .i64 (st : Int)]) (by simp [results, Try.results102, go_sem, cE]) rfl ⟨Only.of_below hbf, _, rfl, World.ownsRow_nil _ _ _ _, HI.out.below hbf⟩

theorem rdRaw_any (R : Nat) (l : List UInt8) (k st : Nat) (most : Int) (hm : -9223372036854775808 ≤ most ∧ most ≤ 9223372036854775807) (w : World) (h : IsRd w R G l k st) :
    Calls Try.prog 102 #[.pointer (some ⟨R, 0, none⟩), .int .i64 most] w (TextAnswers G R l w (textS l most.toNat k st).1 (textS l most.toNat k st).2.1 (textS l most.toNat k st).2.2) := by
  by_cases hst : st = 0
  · subst hst
    exact rdRaw_ok R l k most hm w h
  · have e : textS l most.toNat k st = ([], st, k) := if_pos hst
    rw [e]
    exact rdRaw_stuck R l k st most w h hst

set_option maxHeartbeats 400000 in
theorem rdEnd_any (R : Nat) (l : List UInt8) (k st : Nat) (w : World) (h : IsRd w R G l k st) :
    Calls Try.prog 33 #[.pointer (some ⟨R, 0, none⟩)] w fun e w' => e = .returned (.int .i64 (endS l k st : Int)) ∧ IsRd w' R G l k (endS l k st : Nat) ∧ Only R w w' := by
  have hf := h.facts
  by_cases hst : st = 0
  · subst hst
    have hA := attempt_any 55 #[] (enters _ (by kernel_rfl)) R l k w h (fun b => b = R) _ _ rfl (fun b hb => by omega)
      (fun w1 hb1 hs1 => end1_any R l k w1 (h.below hb1))
    have HA := Lib.hid hA
    clear hA
    obtain ⟨c, hq⟩ : ∃ c, endS l k 0 = c := ⟨_, rfl⟩
    have HQ := Lib.hid hq
    rw [hq]
    clear hq
    go_enter Try.func33, Try.ntmps33
    go_wp2_with fail
    refine HA.out.mono ?_
    rintro e w' ⟨w2, hsz, ho, ho2, hcase⟩
    have hall : e = .returned (.int .i64 (c : Int)) ∧ IsRd w' R G l k c := by
      have hq := HQ.out
      rcases hcase with ⟨k', rfl, hr, rfl, hlt⟩ | ⟨d, rfl, hr, rfl, hlt⟩
      · simp only [endS, if_neg (show ¬ k' < l.length by omega)] at hq
        subst hq
        exact ⟨rfl, hr⟩
      · simp only [endS, if_pos hlt] at hq
        subst hq
        exact ⟨rfl, hr⟩
    obtain ⟨rfl, hr⟩ := hall
    have HR := Lib.hid hr
    have HO := Lib.hid (ho.only (R := R) fun b _ h => h)
    clear hsz ho ho2 hcase hr HA
    go_wp2
    go_ret
    exact ⟨rfl, HR.out, HO.out⟩
  · have e : endS l k st = st := if_pos hst
    rw [e]
    have hA := attempt_stuck (G := G) 55 #[] R l k st w h (by omega)
    have HA := Lib.hid hA
    have HI := Lib.hid h
    clear hA e h hst
    go_enter Try.func33, Try.ntmps33
    go_wp2_with fail
    refine HA.out.mono ?_
    rintro e w' ⟨rfl, hb⟩
    have HB := Lib.hid hb
    clear hb HA
    go_wp2
    go_ret
    exact ⟨rfl, HI.out.below HB.out, Only.of_below HB.out⟩

end Go.Proofs.Ytidapdooiibfnaa

/- BinOrder: the walk. -/
namespace Go.Proofs.Ytidapdooiibfnaa
set_option maxRecDepth 20000
open Go.RowKit BinMath

/-- What the walk of BinOrder is told of two texts. -/
structure Two (a b : Nat) (X Y : ByteArray) : Prop where
  eql : (X.toList == Y.toList) = decide (a = b)
  lss : Op.bytesLess X.toList Y.toList = decide (a < b)
  pre : a ≠ b → X.size ≤ Y.size → ((Y.extract 0 X.size).toList == X.toList) = false
  erp : a ≠ b → Y.size ≤ X.size → ((X.extract 0 Y.size).toList == Y.toList) = false

theorem two (a b : Nat) (ha : a < 18446744073709551616) (hb : b < 18446744073709551616) : Two a b ⟨(numL a).toArray⟩ ⟨(numL b).toArray⟩ := by
  have pre : ∀ a b : Nat, a < 18446744073709551616 → b < 18446744073709551616 → a ≠ b → (((⟨(numL b).toArray⟩ : ByteArray).extract 0 (⟨(numL a).toArray⟩ : ByteArray).size).toList == (⟨(numL a).toArray⟩ : ByteArray).toList) = false := by
    intro a b ha hb hne
    rw [beq_eq_false_iff_ne, ByteArray.toList_mk, ByteArray.toList_eq]
    intro h
    refine hne (numL_prefix a b ha hb ?_)
    have hs : (⟨(numL a).toArray⟩ : ByteArray).size = (numL a).length := by simp [ByteArray.size]
    rw [hs] at h
    rw [Lib.extract_data] at h
    simpa using h
  refine ⟨?_, ?_, fun h _ => pre a b ha hb h, fun h _ => pre b a hb ha (Ne.symm h)⟩
  · rw [ByteArray.toList_mk, ByteArray.toList_mk, Bool.eq_iff_iff]
    simp only [beq_iff_eq, decide_eq_true_eq]
    exact ⟨numL_inj a b ha hb, fun h => by rw [h]⟩
  · rw [ByteArray.toList_mk, ByteArray.toList_mk]
    exact less_numL a b ha hb

end Go.Proofs.Ytidapdooiibfnaa

/- A new reader; what the laws of layer 1 begin with. -/
namespace Go.Proofs.Ytidapdooiibfnaa
set_option maxRecDepth 20000
open Go.RowKit BinMath
variable {G : Nat}

theorem bys_cells {w : World} {a : Option Addr} {len cap : Nat} {l : List UInt8} (h : Bys w (.slice a len cap) l) : len = l.length ∧ (0 < l.length → ∃ ad, a = some ad ∧ ∀ j v, (l.map bv)[j]? = some v → w.cell? (ad.add j) = some v) := by
  rcases h with ⟨h1, rfl⟩ | ⟨ad, cap', h1, hc⟩
  · simp at h1
    exact ⟨h1.2.1, fun h => by simp at h⟩
  · simp at h1
    obtain ⟨rfl, rfl, rfl⟩ := h1
    exact ⟨rfl, fun _ => ⟨ad, rfl, cells_bys hc⟩⟩

theorem made {w1 : World} {B T n : Nat} {xs : List Value} (h : w1.ownsRow B 5 1 (.slice (some ⟨T, 0, none⟩) n n) n xs) : ∃ cur, w1.heap[T]? = some (.cells cur 5 (0, 0)) ∧ cur.size = n := by
  rcases h.2 with ⟨h0, _⟩ | ⟨T', cap0, cur, hT, hBT, hg1, hnc, hcm0, hcs, htk⟩
  · cases h0
  · simp at hT
    obtain ⟨rfl, rfl⟩ := hT
    exact ⟨cur, hg1, by simpa using hcs⟩

theorem pos_ready {w w1 : World} {T : Nat} {a : Option Addr} {l : List UInt8} (hc : 0 < l.length → ∃ ad, a = some ad ∧ ∀ j v, (l.map bv)[j]? = some v → w.cell? (ad.add j) = some v) (hb : Below w.heap.size w w1) :
    0 < (l.map bv).length → some (⟨T, 0, none⟩ : Addr) = some ⟨T, 0, none⟩ ∧ ∃ ad, a = some ad ∧ ∀ j v, (l.map bv)[j]? = some v → w1.cell? (ad.add j) = some v := fun h => by
  rw [List.length_map] at h
  obtain ⟨ad, h1, h2⟩ := hc h
  refine ⟨rfl, ad, h1, fun j v hj => ?_⟩
  have h3 := h2 j v hj
  rw [hb.cell (World.block_lt_of_cell? w _ h3)]
  exact h3

set_option maxHeartbeats 400000 in
theorem rnew_any (a : Option Addr) (len cap : Nat) (l : List UInt8) (w : World) (hx : Bys w (.slice a len cap) l) (hl : l.length ≤ 140737488351232) :
    Calls Try.prog 31 #[.slice a len cap] w fun e w' => ∃ R, e = .returned (.pointer (some ⟨R, 0, none⟩)) ∧ w.heap.size ≤ R ∧ IsRd w' R w'.heap.size l 0 0 ∧ Below w.heap.size w w' := by
  obtain ⟨i0, hi, hz0, hz1, hz2⟩ := info_parts info_byte
  obtain ⟨hlen, hc⟩ := bys_cells hx
  have HX := Lib.hid hx
  have HC := Lib.hid hc
  have HLen := Lib.hid hlen
  have hll : len ≤ 140737488351232 := by omega
  clear hx hc hlen hl
  go_enter Try.func31, Try.ntmps31
  go_wp2_with (first | (at_make; refine wpList_make_full _ rfl _ _ 25 rfl w.heap.size 5 i0 (.int .u8 0) 1 Try.underlying25 hi hz0 hz1 _ _ _ _ len rfl rfl rfl rfl (by rw [hz2]; omega) (by unfold maxLen; omega) (Nat.le_refl _) ?_; intro w1 hown hgrow; (obtain ⟨cur, hg1, hcs⟩ := made hown); (have HB := Lib.hid ((Below.refl _ w).grown hgrow (Nat.le_refl _) (by simp))); (have HG := Lib.hid hg1); (have HCs := Lib.hid hcs); (have HPos := Lib.hid (pos_ready (T := w.heap.size) HC.out HB.out)); clear hown hgrow hg1 hcs) | (refine wpList_copy_splice rfl (.tmp 7) (.tmp 8) 25 25 rfl 5 Try.underlying25 (by kernel_rfl) _ _ _ _ _ _ rfl rfl w.heap.size 0 cur.toList 5 HG.out (l.map bv) (by rw [List.length_map, ← HLen.out]; show _ = min _ _; omega) HPos.out (by rw [List.length_map, ← HLen.out]; simp [HCs.out]) (one_bv l) w.heap.size w HB.out (Nat.le_refl _) ?_; intro w2 hg2 hb2; (have HB2 := Lib.hid hb2); clear hb2))
  go_wp2
  go_ret
  have hlen := HLen.out
  have hgs : w.heap.size < w2.heap.size := by
    have := hg2.out
    exact (Array.getElem?_eq_some_iff.1 this).1
  refine ⟨w2.heap.size, rfl, HB2.out.size, ⟨some ⟨w.heap.size, 0, none⟩, len, ?_, Nat.zero_le _, by omega, ⟨by omega, by unfold maxLen; omega, Nat.le_refl _⟩, .inr ⟨w.heap.size, rfl, by omega, by rw [World.size_alloc]; omega, fun i hi => ?_⟩⟩, HB2.out.alloc HB2.out.size _⟩
  · rw [← HLen.out]
    exact heap_alloc_new w2 _
  · have h1 : (w2.alloc (.cells #[.slice (some ⟨w.heap.size, 0, none⟩) len len, .int .i64 0, .int .i64 0] 95)).heap[w.heap.size]? = some (.cells (splice cur.toList 0 (l.map bv)).toArray 5 (0, 0)) := by
      rw [Below.heap_alloc _ _ _ hgs]; exact hg2.out
    refine (cell_of_heap h1).trans ?_
    have e : splice cur.toList 0 (l.map bv) = l.map bv := by
      have := HCs.out
      have := HLen.out
      simp [splice]
      omega
    rw [e]
    simp [hi]

end Go.Proofs.Ytidapdooiibfnaa

/- A nil reader: attempt, and its calls. -/
namespace Go.Proofs.Ytidapdooiibfnaa
set_option maxRecDepth 20000
open Go.RowKit BinMath

end Go.Proofs.Ytidapdooiibfnaa

