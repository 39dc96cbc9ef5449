/- Joined: BinRead, BinAttempt, BinMethods, BinNew, FrameOne. -/
import Derived.Test.YtjdlgobcofphkaaGreatDoorJF1
import Derived.Test.YtjdlgobcofphkaaGreatDoorJA1
import Derived.BigQuiet
import Derived.Deep.QuietTactic
import Derived.Laws.CopyOwn
import Derived.Deep.RegionLaw
import Derived.Lib.SliceRun
/- The reader of bytes: its inner readings, which give up by a panic. -/
namespace Go.Proofs.YtjdlgobcofphkaaGreatDoor
open Go.RowKit BinMath
variable {G : Nat}

/-- A reader in block R: it stands at place k of the bytes l; stuck by st. -/
def IsRd (w : World) (R G : Nat) (l : List UInt8) (k : Nat) (st : Int) : Prop :=
  ∃ b cap, w.heap[R]? = some (.cells #[.slice b l.length cap, .int .i64 (k : Int), .int .i64 st] 134 (0, 0)) ∧ k ≤ l.length ∧ l.length ≤ 140737488351232 ∧ (l.length ≤ cap ∧ cap ≤ maxLen ∧ G ≤ w.heap.size) ∧
    (b = none ∧ l = [] ∧ cap = 0 ∨ ∃ g, b = some ⟨g, 0, none⟩ ∧ g ≠ R ∧ g < G ∧ ∀ i (h : i < l.length), w.cell? ⟨g, i, none⟩ = some (bv l[i]))

/-- What a reading that gives up panics with. -/
def gaveUp (c : Int) : List PanicEntry := [{ v := .iface 153 (.agg #[.int .i64 c]), recovered := false }]

set_option maxHeartbeats 400000 in
theorem giveUp_any (c : Int) (w : World) : Calls Tryz.prog 121 #[.int .i64 c] w fun e w' => e = .panicked (gaveUp c) ∧ w' = w := by
  go_enter Tryz.func121, Tryz.ntmps121
  go_wp2
  exact ⟨rfl, rfl, rfl⟩

set_option maxHeartbeats 400000 in
theorem left_any (l : List UInt8) (k : Nat) (st : Int) (R : Nat) (w : World) (h : IsRd w R G l k st) :
    Calls Tryz.prog 89 #[.pointer (some ⟨R, 0, none⟩)] w fun e w' => e = .returned (.int .i64 ((l.length - k : Nat) : Int)) ∧ ∃ n, w' = w.drewN n := by
  obtain ⟨b, cap, hR, hk, hl, hcap, -⟩ := h
  have c0 : w.cell? ⟨R, 0, none⟩ = some (.slice b l.length cap) := by rw [cell_of_heap hR]; rfl
  have c1 : w.cell? ⟨R, 1, none⟩ = some (.int .i64 (k : Int)) := by rw [cell_of_heap hR]; rfl
  clear hR
  go_enter Tryz.func89, Tryz.ntmps89
  go_wp2
  go_quiet (fail)
  go_wp2
  go_ret
  refine ⟨congrArg Ending.returned (congrArg (Value.int IntKind.i64) ?_), _, rfl⟩
  omega

/-- A reader in a later world, its bytes where they were. -/
theorem IsRd.to {w w' : World} {R : Nat} {l : List UInt8} {k k' : Nat} {st st' : Int} (h : IsRd w R G l k st) (hsz : w.heap.size ≤ w'.heap.size) (hfar : ∀ g, g < G → g ≠ R → w'.heap[g]? = w.heap[g]?)
    (hR : ∀ b cap, w.heap[R]? = some (.cells #[.slice b l.length cap, .int .i64 (k : Int), .int .i64 st] 134 (0, 0)) → w'.heap[R]? = some (.cells #[.slice b l.length cap, .int .i64 (k' : Int), .int .i64 st'] 134 (0, 0))) (hk : k' ≤ l.length) : IsRd w' R G l k' st' := by
  obtain ⟨b, cap, hRw, hk0, hl, ⟨h1, h2, h3⟩, hb⟩ := h
  refine ⟨b, cap, hR b cap hRw, hk, hl, ⟨h1, h2, Nat.le_trans h3 hsz⟩, ?_⟩
  rcases hb with hb | ⟨g, e, hg, hgs, hc⟩
  · exact .inl hb
  · exact .inr ⟨g, e, hg, hgs, fun i hi => (World.cell?_of_block (hfar g hgs hg)).trans (hc i hi)⟩

theorem IsRd.drewN {w : World} {R : Nat} {l : List UInt8} {k : Nat} {st : Int} (h : IsRd w R G l k st) (n : Nat) : IsRd (w.drewN n) R G l k st := h

theorem IsRd.facts {w : World} {R : Nat} {l : List UInt8} {k : Nat} {st : Int} (h : IsRd w R G l k st) : R < w.heap.size ∧ k ≤ l.length ∧ l.length ≤ 140737488351232 ∧ G ≤ w.heap.size := by
  obtain ⟨b, cap, hRw, hk0, hl, ⟨_, _, h3⟩, _⟩ := h
  exact ⟨(Array.getElem?_eq_some_iff.1 hRw).1, hk0, hl, h3⟩

/-- The reader behind a store into its block. -/
theorem IsRd.step {w : World} {R : Nat} {l : List UInt8} {k : Nat} {st : Int} (h : IsRd w R G l k st) {k' : Nat} (hk : k' ≤ l.length) : IsRd (w.setCell ⟨R, 1, none⟩ (.int .i64 (k' : Int))) R G l k' st :=
  h.to (by simp [World.setCell]) (fun g _ hg => heap_set_other hg _) (fun b cap hR => by rw [heap_set_same hR]; rfl) hk

/-- Whatever else turns, as long as it is none of the blocks below G. -/
theorem IsRd.only {w w' : World} {R : Nat} {l : List UInt8} {k : Nat} {st : Int} {S : Nat → Prop} (h : IsRd w R G l k st) (ho : OnlyS S w w') (hS : ∀ b, b < G → ¬ S b) (hSR : ¬ S R) : IsRd w' R G l k st := by
  have hf := h.facts
  exact h.to ho.size (fun g hg _ => ho.block g (by omega) (hS g hg)) (fun b cap hR => by rw [ho.block R hf.1 hSR]; exact hR) hf.2.1

theorem IsRd.below {w w' : World} {R : Nat} {l : List UInt8} {k : Nat} {st : Int} (h : IsRd w R G l k st) (hb : Below w.heap.size w w') : IsRd w' R G l k st :=
  h.only (S := fun _ => False) (OnlyS.of_below hb fun _ hk _ => hk) (fun _ _ => id) id

set_option maxHeartbeats 400000 in
theorem next_none (l : List UInt8) (k : Nat) (R : Nat) (st : Int) (w : World) (h : IsRd w R G l k st) (hk : k = l.length) :
    Calls Tryz.prog 120 #[.pointer (some ⟨R, 0, none⟩)] w fun e w' => e = .panicked (gaveUp 2) ∧ ∃ n, w' = w.drewN n := by
  have hL := left_any l k st R w h
  rw [hk, Nat.sub_self] at hL
  go_enter Tryz.func120, Tryz.ntmps120
  go_wp2_with fail
  refine hL.mono ?_
  rintro e w1 ⟨rfl, n, rfl⟩
  go_wp2_with (go_at_call 121; refine (giveUp_any _ _).mono ?_; rintro e w2 ⟨rfl, rfl⟩)
  exact ⟨rfl, rfl, _, rfl⟩

set_option maxHeartbeats 400000 in
theorem next_some (l : List UInt8) (k : Nat) (R : Nat) (st : Int) (w : World) (h : IsRd w R G l k st) (hk : k < l.length) :
    Calls Tryz.prog 120 #[.pointer (some ⟨R, 0, none⟩)] w fun e w' => e = .returned (bv l[k]) ∧ IsRd w' R G l (k + 1) st ∧ Only R w w' := by
  have hL := left_any l k st R w h
  obtain ⟨m, hm⟩ : ∃ m, m + 1 = l.length - k := ⟨l.length - k - 1, by omega⟩
  rw [← hm] at hL
  have hne : (((m + 1 : Nat) : Int) == 0) = false := by simp; omega
  have hst := Lib.hid (h.step (k' := k + 1) (by omega))
  obtain ⟨b, cap, hR, hk0, hl, hcap, hb⟩ := h
  rcases hb with ⟨_, rfl, _⟩ | ⟨g, rfl, hg, hgs, hc⟩
  · simp at hk
  have c0 : w.cell? ⟨R, 0, none⟩ = some (.slice (some ⟨g, 0, none⟩) l.length cap) := by rw [cell_of_heap hR]; rfl
  have c1 : w.cell? ⟨R, 1, none⟩ = some (.int .i64 (k : Int)) := by rw [cell_of_heap hR]; rfl
  have f1 : w.frozen? ⟨R, 1, none⟩ = false := free_of_heap hR
  have cg : w.cell? ⟨g, k, none⟩ = some (bv l[k]) := hc k hk
  obtain ⟨y, hy⟩ : ∃ y, y = bv l[k] := ⟨_, rfl⟩
  rw [← hy] at cg ⊢
  have hkb : (k : Int) < (l.length : Int) := by omega
  obtain ⟨len, hlen⟩ : ∃ len, len = l.length := ⟨_, rfl⟩
  rw [← hlen] at c0 hkb
  have hll : len ≤ 140737488351232 := by omega
  clear hR hc hy hm hlen
  go_enter Tryz.func120, Tryz.ntmps120
  go_wp2_with fail
  refine hL.mono ?_
  rintro e w1 ⟨rfl, n, rfl⟩
  clear hL
  go_wp2
  go_quiet (fail)
  go_wp2
  go_ret
  refine ⟨rfl, ?_, ?_⟩
  · have e : ((k + 1 : Nat) : Int) = (k : Int) + 1 := by omega
    have h := hst.out
    rw [e] at h
    exact h.drewN _
  · exact ((Only.refl R w).drewN _).setR 1 _
/-- How an inner reading ends: with its value, or by giving up; where the reader then stands. -/
def NumEnd (G : Nat) (l : List UInt8) (k : Nat) (R : Nat) (st : Int) (w : World) (e : Ending) (w' : World) : Prop :=
  ∃ k', IsRd w' R G l k' st ∧ Only R w w' ∧ match pNum (l.drop k) with
    | .ok (n, u) => e = .returned (.int .u64 (n : Int)) ∧ k' = k + u
    | .error c => e = .panicked (gaveUp c)

/-- 'n<<8 | c'. -/
theorem shift_or (acc c i : Nat) (hi : i < 8) (ha : acc < 256 ^ i) (hc : c < 256) : bits BinOp.or IntKind.u64 (IntKind.u64.wrap ((acc : Int) * 256)) (c : Int) = ((acc * 256 + c : Nat) : Int) := by
  have h7 : 256 ^ i ≤ 256 ^ 7 := Nat.pow_le_pow_right (by decide) (by omega)
  have e7 : (256 : Nat) ^ 7 = 72057594037927936 := by decide
  rw [IntWalk.u64_in _ ⟨by omega, by omega⟩]
  rw [show (acc : Int) * 256 = ((acc * 256 : Nat) : Int) by omega, u64_or_nat _ _ (by omega) (by omega)]
  congr 1
  have := Nat.two_pow_add_eq_or_of_lt (i := 8) (b := c) (by omega) acc
  rw [show (2 : Nat) ^ 8 = 256 by decide, Nat.mul_comm] at this
  exact this.symm

theorem pNum_eq {l r : List UInt8} {c : UInt8} {y : Nat} (h : l = c :: r) (hy : y = c.toNat) (h8 : ¬ 8 < y) : pNum l = match digs y true 0 r with
    | .ok n => .ok (n, y + 1)
    | .error c => .error c := by
  subst h hy
  simp only [pNum, if_neg h8]
  all_goals (cases digs c.toNat true 0 r <;> rfl)

set_option maxHeartbeats 1000000 in
theorem number_any (l : List UInt8) (k : Nat) (R : Nat) (st : Int) (w : World) (h : IsRd w R G l k st) :
    Calls Tryz.prog 103 #[.pointer (some ⟨R, 0, none⟩)] w (NumEnd G l k R st w) := by
  have hk : k ≤ l.length := by obtain ⟨_, _, _, hk, _⟩ := h; exact hk
  by_cases hlt : k < l.length
  · have hN := next_some l k R st w h hlt
    have hdr : l.drop k = l[k] :: l.drop (k + 1) := by rw [List.drop_eq_getElem_cons hlt]
    unfold bv at hN
    obtain ⟨y, hy⟩ : ∃ y, y = l[k].toNat := ⟨_, rfl⟩
    have hyb : y < 256 := by rw [hy]; exact l[k].toNat_lt
    rw [← hy] at hN
    have HY := Lib.hid hy
    have HD := Lib.hid hdr
    clear hy hdr
    by_cases h8 : 8 < y
    · go_enter Tryz.func103, Tryz.ntmps103
      go_wp2_with fail
      refine hN.mono ?_
      rintro e w1 ⟨rfl, hr1, ho1⟩
      have HR := Lib.hid hr1
      have HO := Lib.hid ho1
      clear hr1 ho1 hN
      go_wp2_with (go_at_call 121; refine (giveUp_any _ _).mono ?_; rintro e w2 ⟨rfl, rfl⟩)
      refine ⟨rfl, k + 1, HR.out, HO.out, ?_⟩
      rw [HD.out, pNum, if_pos (by rw [← HY.out]; exact h8)]
      rfl
    · have h8' : decide ((8 : Int) < (y : Int)) = false := by simp; omega
      go_enter Tryz.func103, Tryz.ntmps103
      go_wp2_with fail
      refine hN.mono ?_
      rintro e w1 ⟨rfl, hr1, ho1⟩
      have HR := Lib.hid hr1
      have HO := Lib.hid ho1
      clear hr1 ho1 hN
      go_wp2_with fail
      clear h8'
      go_loopw [4, 14] (fun s4 s14 wr => ∃ i acc : Nat, i ≤ y ∧ s14 = .int .i64 (i : Int) ∧ s4 = .int .u64 (acc : Int) ∧ acc < 256 ^ i ∧ IsRd wr R G l (k + 1 + i) st ∧ Only R w wr ∧ digs (y - i) (i == 0) acc (l.drop (k + 1 + i)) = digs y true 0 (l.drop (k + 1))) (fun _ s14 _ => (y - intOf s14).toNat)
      case atStart => exact ⟨0, 0, Nat.zero_le _, rfl, rfl, by simp, HR.out, HO.out, rfl⟩
      case round =>
        obtain ⟨i, acc, hi, rfl, rfl, hacc, hrd, hon, heq⟩ := hrel
        have HA := Lib.hid hacc
        have HRd := Lib.hid hrd
        have HOn := Lib.hid hon
        have HE := Lib.hid heq
        have hNs := fun h => next_some l (k + 1 + i) R st wr hrd h
        have hNn := fun h => next_none l (k + 1 + i) R st wr hrd h
        have HNs := Lib.hid hNs
        have HNn := Lib.hid hNn
        clear hacc hrd hon heq hNs hNn
        by_cases hiy : i < y
        · by_cases hin : k + 1 + i < l.length
          · have hN := HNs.out hin
            unfold bv at hN
            obtain ⟨c, hc⟩ : ∃ c, c = l[k + 1 + i].toNat := ⟨_, rfl⟩
            have hcb : c < 256 := by rw [hc]; exact UInt8.toNat_lt _
            rw [← hc] at hN
            have HC := Lib.hid hc
            clear hc
            have hdr : l.drop (k + 1 + i) = l[k + 1 + i] :: l.drop (k + 1 + i + 1) := List.drop_eq_getElem_cons hin
            have HDr := Lib.hid hdr
            clear hdr
            go_wp2_with fail
            refine hN.mono ?_
            rintro e w2 ⟨rfl, hr2, ho2⟩
            have HR2 := Lib.hid hr2
            have HO2 := Lib.hid ho2
            clear hr2 ho2 hN
            have hdig : digs (y - i) (i == 0) acc (l.drop (k + 1 + i)) = if (i == 0) && c == 0 then .error 3 else digs (y - (i + 1)) false (acc * 256 + c) (l.drop (k + 1 + i + 1)) := by
              rw [show y - i = y - (i + 1) + 1 by omega, HDr.out, digs, HC.out]
            have HDg := Lib.hid hdig
            clear hdig
            by_cases h0 : i = 0
            · by_cases hc0 : c = 0
              · have e1 : ((i : Int) == 0) = true := by simp; omega
                have e2 : ((c : Int) == 0) = true := by simp; omega
                have H0 := Lib.hid h0
                have HC0 := Lib.hid hc0
                clear h0 hc0
                go_wp2_with (go_at_call 121; refine (giveUp_any _ _).mono ?_; rintro e w3 ⟨rfl, rfl⟩)
                refine ⟨rfl, k + 1 + i + 1, HR2.out, HOn.out.trans HO2.out, ?_⟩
                rw [pNum_eq HD.out HY.out h8, ← HE.out, HDg.out, if_pos (by rw [H0.out, HC0.out]; rfl)]
                rfl
              · have e1 : ((i : Int) == 0) = true := by simp; omega
                have e2 : ((c : Int) == 0) = false := by simp; omega
                have H0 := Lib.hid h0
                have HC0 := Lib.hid hc0
                clear h0 hc0
                go_wp2
                go_roundw
                case rel =>
                  refine ⟨i + 1, acc * 256 + c, by omega, by go_num, congrArg (Value.int IntKind.u64) (shift_or acc c i (by omega) HA.out hcb), ?_, HR2.out, HOn.out.trans HO2.out, ?_⟩
                  · have := HA.out; rw [Nat.pow_succ]; omega
                  · rw [← HE.out, HDg.out, if_neg (by simp; exact fun _ => HC0.out)]; rfl
                case measure => simp [intOf]; omega
            · have e1 : ((i : Int) == 0) = false := by simp; omega
              have H0 := Lib.hid h0
              clear h0
              go_wp2
              go_roundw
              case rel =>
                refine ⟨i + 1, acc * 256 + c, by omega, by go_num, congrArg (Value.int IntKind.u64) (shift_or acc c i (by omega) HA.out hcb), ?_, HR2.out, HOn.out.trans HO2.out, ?_⟩
                · have := HA.out; rw [Nat.pow_succ]; omega
                · rw [← HE.out, HDg.out, if_neg (by simp; exact fun h => absurd h H0.out)]; rfl
              case measure => simp [intOf]; omega
          · have hN := HNn.out (by have := HRd.out; obtain ⟨_, _, _, hh, _⟩ := this; omega)
            go_wp2_with fail
            refine hN.mono ?_
            rintro e w2 ⟨rfl, n, rfl⟩
            refine ⟨rfl, k + 1 + i, HRd.out.drewN n, HOn.out.drewN n, ?_⟩
            rw [pNum_eq HD.out HY.out h8, ← HE.out, List.drop_eq_nil_of_le (by omega), show y - i = y - (i + 1) + 1 by omega, digs]
            rfl
        · go_wp2
          go_ret
          refine ⟨k + 1 + i, HRd.out, HOn.out, ?_⟩
          rw [pNum_eq HD.out HY.out h8, ← HE.out, show y - i = 0 by omega, digs]
          exact ⟨rfl, by omega⟩
  · have hN := next_none l k R st w h (by omega)
    go_enter Tryz.func103, Tryz.ntmps103
    go_wp2_with fail
    refine hN.mono ?_
    rintro e w1 ⟨rfl, n, rfl⟩
    refine ⟨rfl, k, h.drewN n, (Only.refl R w).drewN n, ?_⟩
    rw [List.drop_eq_nil_of_le (by omega)]
    rfl

/-- How the reading of a text ends. -/
def TextEnd (G : Nat) (l : List UInt8) (k : Nat) (R : Nat) (st : Int) (most : Int) (w : World) (e : Ending) (w' : World) : Prop :=
  ∃ k', IsRd w' R G l k' st ∧ Only R w w' ∧ match pText most.toNat (l.drop k) with
    | .ok (t, u) => (∃ v, e = .returned v ∧ Row w' w.heap.size v t) ∧ k' = k + u
    | .error c => e = .panicked (gaveUp c)

theorem text_close {l : List UInt8} {k R : Nat} {st most : Int} {w w1 w6 : World} {n at0 u' : Nat} {cs : List UInt8} {cur : Array Value} (HR : IsRd w1 R G l at0 st) (HO : Only R w w1) (hb6 : Below w1.heap.size w1 w6)
    (hg6 : w6.heap[w1.heap.size]? = some (.cells (splice cur.toList 0 (cs.map bv)).toArray 5 (0, 0))) (hcs : cur.size = n) (hcl : cs.length = n) (hp : pText most.toNat (l.drop k) = .ok (cs, u')) (hu : at0 + n = k + u') (hfit : at0 + n ≤ l.length) :
    TextEnd G l k R st most w (.returned (.slice (some ⟨w1.heap.size, 0, none⟩) n n)) (w6.setCell ⟨R, 1, none⟩ (.int .i64 ((at0 : Int) + (n : Int)))) := by
  have hRs : R < w1.heap.size := by
    obtain ⟨b, cap, hR, _⟩ := HR
    exact (Array.getElem?_eq_some_iff.1 hR).1
  have hll : l.length ≤ 140737488351232 := by obtain ⟨b, cap, _, _, hl, _⟩ := HR; exact hl
  have e1 : ((at0 : Int) + (n : Int)) = ((at0 + n : Nat) : Int) := by omega
  refine ⟨at0 + n, ?_, ?_, ?_⟩
  · rw [e1]; exact (HR.below hb6).step hfit
  · exact (HO.trans (Only.of_below hb6)).setR 1 _
  · rw [hp]
    refine ⟨⟨_, rfl, ?_⟩, hu⟩
    unfold Row
    rw [hcl]
    refine ⟨by simp [hcl], .inr ⟨w1.heap.size, n, (splice cur.toList 0 (cs.map bv)).toArray, rfl, HO.size, ?_, Nat.le_refl _, by unfold maxLen; omega, ?_, ?_⟩⟩
    · rw [Below.heap_setCell _ _ _ _ (by simp; omega)]; exact hg6
    · simp [splice, hcl, hcs]
    · simp [splice, hcl]

end Go.Proofs.YtjdlgobcofphkaaGreatDoor

/- attempt: one reading; if it gives up, the reader is stuck. -/
namespace Go.Proofs.YtjdlgobcofphkaaGreatDoor
open Go.RowKit BinMath
variable {G : Nat}

theorem frame_ap (p q s x : Value) : #[p, q, s] ++ ((Array.replicate 25 undef).setIfInBounds 3 x).setIfInBounds 0 x = #[p, q, s, x, undef, undef, x, undef, undef, undef, undef, undef, undef, undef, undef, undef, undef, undef, undef, undef, undef, undef, undef, undef, undef, undef, undef, undef] := by
  apply Array.ext'
  simp only [Array.toList_append, Array.toList_setIfInBounds, Array.toList_replicate]
  rfl

set_option maxHeartbeats 400000 in
/-- The deferred closure, nothing to recover. -/
theorem caught_idle (p q s : Value) (w : World) :
    CallsD Tryz.prog 119 #[p, q, s] .returning w fun e u' w' => e = .returned (.tuple #[]) ∧ u' = .returning ∧ w' = w := by
  refine callsD_of_wpS Tryz.func119 rfl fun c₀ cs hu => ?_
  apply wpS_seq
  apply wpS_region
  simp [wpOpsS, go_sem, recoverD, hu, Tryz.ntmps119, Exit.thenS]
  rw [frame_ap]
  refine wpS_of_wp ?_
  go_wp2
  cases c₀
  simp_all [bodyPostS, results, Tryz.results119]

/-- The reader where it stood, stuck. -/
theorem stuck_step {w : World} {R : Nat} {l : List UInt8} {k' k : Nat} {c : Int} (h : IsRd w R G l k' 0) (hk : k ≤ l.length) : IsRd ((w.setCell ⟨R, 1, none⟩ (.int .i64 (k : Int))).setCell ⟨R, 2, none⟩ (.int .i64 c)) R G l k c :=
  h.to (by simp [World.setCell]) (fun g _ hg => (heap_set_other hg _).trans (heap_set_other hg _)) (fun b cap hR => by rw [heap_set_same (heap_set_same hR _)]; rfl) hk

theorem is_unread (v : Value) (w : World) : (Instr.typeAssert (.iface 153 v) 20 153 true).run Tryz.prog w = .ok (.tuple #[v, .bool true]) w := by kernel_rfl

/-- The reader stands at k, stuck by c, which the variable E holds. -/
def Caught (G E R : Nat) (l : List UInt8) (k : Nat) (c : Int) (w w' : World) : Prop := IsRd w' R G l k c ∧ w'.heap[E]? = some (.cells #[.int .i64 c] 45 (0, 0)) ∧ OnlyS (fun b => b = R ∨ b = E) w w'

theorem caught_close {E R : Nat} {l : List UInt8} {k k' : Nat} {c x : Int} {w : World} (hGE : G ≤ E) (hr : IsRd w R G l k' 0) (hk : k ≤ l.length) (hE : w.heap[E]? = some (.cells #[.int .i64 x] 45 (0, 0))) (hne : ¬ E = R) (sE : E < w.heap.size) (o : Obj) :
    Caught G E R l k c w ((((w.setCell ⟨R, 1, none⟩ (.int .i64 (k : Int))).setCell ⟨R, 2, none⟩ (.int .i64 c)).setCell ⟨E, 0, none⟩ (.int .i64 c)).alloc o).drew := by
  have h1 := stuck_step (c := c) hr hk
  have e1 : ((w.setCell ⟨R, 1, none⟩ (.int .i64 (k : Int))).setCell ⟨R, 2, none⟩ (.int .i64 c)).heap[E]? = some (.cells #[.int .i64 x] 45 (0, 0)) := by
    rw [heap_set_other (by omega), heap_set_other (by omega)]; exact hE
  refine ⟨?_, ?_, ?_⟩
  · exact h1.only (S := fun b => b = E) (((OnlyS.refl (fun b => b = E) _).setCell (p := ⟨E, 0, none⟩) (fun _ => rfl) _).alloc o).drew (fun b hb he => by omega) (fun he => hne he.symm)
  · show (World.alloc _ o).heap[E]? = _
    rw [Below.heap_alloc _ _ _ (by simpa [World.setCell] using sE), heap_set_same e1]
    rfl
  · exact (((((OnlyS.refl _ w).setCell (p := ⟨R, 1, none⟩) (fun _ => .inl rfl) _).setCell (p := ⟨R, 2, none⟩) (fun _ => .inl rfl) _).setCell (p := ⟨E, 0, none⟩) (fun _ => .inr rfl) _).alloc o).drew

set_option maxHeartbeats 1000000 in
/-- The deferred closure behind a reading that gave up: A is the variable of the place, B of the reader, E of the error. -/
theorem caught_one (A B E R : Nat) (hGE : G ≤ E) (l : List UInt8) (k k' : Nat) (c x : Int) (w : World) (hr : IsRd w R G l k' 0) (hk : k ≤ l.length)
    (hA : w.heap[A]? = some (.cells #[.int .i64 (k : Int)] 3 (0, 0))) (hB : w.heap[B]? = some (.cells #[.pointer (some ⟨R, 0, none⟩)] 123 (0, 0))) (hE : w.heap[E]? = some (.cells #[.int .i64 x] 45 (0, 0))) (hne : A ≠ R ∧ B ≠ R ∧ E ≠ R ∧ A ≠ E ∧ B ≠ E) :
    CallsD Tryz.prog 119 #[.pointer (some ⟨A, 0, none⟩), .pointer (some ⟨B, 0, none⟩), .pointer (some ⟨E, 0, none⟩)] (.panicking (gaveUp c)) w fun e u' w' =>
      e = .returned (.tuple #[]) ∧ u' = .panicking [{ v := .iface 153 (.agg #[.int .i64 c]), recovered := true }] ∧ Caught G E R l k c w w' := by
  have cA : w.cell? ⟨A, 0, none⟩ = some (.int .i64 (k : Int)) := by rw [cell_of_heap hA]; rfl
  have cB : w.cell? ⟨B, 0, none⟩ = some (.pointer (some ⟨R, 0, none⟩)) := by rw [cell_of_heap hB]; rfl
  have cE : w.cell? ⟨E, 0, none⟩ = some (.int .i64 x) := by rw [cell_of_heap hE]; rfl
  have fE : w.frozen? ⟨E, 0, none⟩ = false := free_of_heap hE
  have HR := Lib.hid hr
  obtain ⟨b, cap, hRh, -⟩ := hr
  have r1 : w.cell? ⟨R, 1, none⟩ = some (.int .i64 (k' : Int)) := by rw [cell_of_heap hRh]; rfl
  have r2 : w.cell? ⟨R, 2, none⟩ = some (.int .i64 0) := by rw [cell_of_heap hRh]; rfl
  have f1 : w.frozen? ⟨R, 1, none⟩ = false := free_of_heap hRh
  have f2 : w.frozen? ⟨R, 2, none⟩ = false := free_of_heap hRh
  refine callsD_of_wpS Tryz.func119 rfl fun c₀ cs hu => ?_
  apply wpS_seq
  apply wpS_region
  simp [wpOpsS, go_sem, recoverD, hu, gaveUp, Tryz.ntmps119, Exit.thenS]
  rw [frame_ap]
  refine wpS_of_wp ?_
  have hta := is_unread (.agg #[.int .i64 c])
  have sA : A < w.heap.size := (Array.getElem?_eq_some_iff.1 hA).1
  have sB : B < w.heap.size := (Array.getElem?_eq_some_iff.1 hB).1
  have sE : E < w.heap.size := (Array.getElem?_eq_some_iff.1 hE).1
  have sR : R < w.heap.size := (Array.getElem?_eq_some_iff.1 hRh).1
  have HE := Lib.hid hE
  obtain ⟨n1, n2, n3, n4, n5⟩ := hne
  have m1 : ¬ A = R := n1
  have m2 : ¬ B = R := n2
  have m3 : ¬ E = R := n3
  have m3' : ¬ R = E := fun h => n3 h.symm
  have m4 : ¬ w.heap.size = R := by omega
  clear hA hB hE hRh n1 n2 n3 n4 n5
  go_wp2
  go_region
  all_goals go_wp2
  all_goals simp [bodyPostS, results, Tryz.results119]
  all_goals exact caught_close hGE HR.out hk HE.out m3 sE _
/-- What a reading does, as attempt asks it: it ends, or gives up; it may write the blocks of S. -/
def Reads (G R : Nat) (l : List UInt8) (S : Nat → Prop) (Ok : Nat → World → Prop) (Bad : Int → World → Prop) (w1 : World) (e : Ending) (w2 : World) : Prop :=
  ∃ k', IsRd w2 R G l k' 0 ∧ OnlyS S w1 w2 ∧ ((e = .returned (.tuple #[]) ∧ Ok k' w2) ∨ ∃ c, e = .panicked (gaveUp c) ∧ Bad c w2)

/-- How attempt ends. w2: the world behind the reading; from there only the reader and attempt's own variables turned. -/
def Attempted (G R : Nat) (l : List UInt8) (k : Nat) (S : Nat → Prop) (Ok : Nat → World → Prop) (Bad : Int → World → Prop) (w : World) (e : Ending) (w' : World) : Prop :=
  ∃ w2, w.heap.size + 3 ≤ w2.heap.size ∧ OnlyS S w w' ∧ OnlyS (fun b => b = R ∨ (w.heap.size ≤ b ∧ b < w.heap.size + 3)) w2 w' ∧
    ((∃ k', e = .returned (.int .i64 0) ∧ IsRd w' R G l k' 0 ∧ Ok k' w2) ∨ ∃ c, e = .returned (.int .i64 c) ∧ IsRd w' R G l k c ∧ Bad c w2)

set_option maxHeartbeats 1000000 in
theorem attempt_any (F : FuncId) (caps : Array Value) (hF : ∀ (args : Array Value) (w : World), (callFunc F args).run Tryz.prog w = .ok (.enter F args) w)
    (R : Nat) (l : List UInt8) (k : Nat) (w : World) (h : IsRd w R G l k 0) (S : Nat → Prop) (Ok : Nat → World → Prop) (Bad : Int → World → Prop) (hSR : S R) (hS : ∀ b, S b → b < w.heap.size)
    (hread : ∀ w1, Below w.heap.size w w1 → w1.heap.size = w.heap.size + 3 → Calls Tryz.prog F (#[.pointer (some ⟨R, 0, none⟩)] ++ caps) w1 (Reads G R l S Ok Bad w1)) :
    Calls Tryz.prog 101 #[.pointer (some ⟨R, 0, none⟩), .func (.func F) #[] caps] w (Attempted G R l k S Ok Bad w) := by
  have hmf : ∀ (fn : Fn) (first cap : Array Value) (w : World), (Instr.makeFunc fn first cap).run Tryz.prog w = .ok (.func fn first cap) w := fun _ _ _ _ => rfl
  have HI := Lib.hid h
  have HRead := Lib.hid hread
  have HS := Lib.hid hS
  obtain ⟨b, cap, hRh, hkl, -⟩ := h
  have r1 : w.cell? ⟨R, 1, none⟩ = some (.int .i64 (k : Int)) := by rw [cell_of_heap hRh]; rfl
  have r2 : w.cell? ⟨R, 2, none⟩ = some (.int .i64 0) := by rw [cell_of_heap hRh]; rfl
  have sR : R < w.heap.size := (Array.getElem?_eq_some_iff.1 hRh).1
  have m4 : ¬ w.heap.size = R := by omega
  clear hRh hread hS
  go_enter_defers Tryz.func101, Tryz.ntmps101
  go_wp2_with fail
  obtain ⟨w1, hw1⟩ : ∃ w1, w1 = ((w.alloc (.cells #[.pointer (some ⟨R, 0, none⟩)] 123)).alloc (.cells #[.int .i64 0] 45)).alloc (.cells #[.int .i64 (k : Int)] 3) := ⟨_, rfl⟩
  rw [← hw1]
  have hb1 : Below w.heap.size w w1 := by rw [hw1]; exact (((Below.refl _ w).alloc (Nat.le_refl _) _).alloc (by simp) _).alloc (by simp only [World.size_alloc]; omega) _
  have hs1 : w1.heap.size = w.heap.size + 3 := by rw [hw1]; simp
  have b0 : w1.heap[w.heap.size]? = some (.cells #[.pointer (some ⟨R, 0, none⟩)] 123 (0, 0)) := by
    rw [hw1, Below.heap_alloc _ _ _ (by simp only [World.size_alloc]; omega), Below.heap_alloc _ _ _ (by simp)]; exact heap_alloc_new w _
  have e0 : w1.heap[w.heap.size + 1]? = some (.cells #[.int .i64 0] 45 (0, 0)) := by
    rw [hw1, Below.heap_alloc _ _ _ (by simp)]
    have := heap_alloc_new (w.alloc (.cells #[.pointer (some ⟨R, 0, none⟩)] 123)) (.cells #[.int .i64 0] 45)
    simpa using this
  have a0 : w1.heap[w.heap.size + 1 + 1]? = some (.cells #[.int .i64 (k : Int)] 3 (0, 0)) := by
    rw [hw1]
    have := heap_alloc_new ((w.alloc (.cells #[.pointer (some ⟨R, 0, none⟩)] 123)).alloc (.cells #[.int .i64 0] 45)) (.cells #[.int .i64 (k : Int)] 3)
    simpa using this
  clear hw1
  refine (HRead.out w1 hb1 hs1).mono ?_
  rintro e w2 ⟨k', hr2, ho2, hcase⟩
  have hfar : ∀ b, w.heap.size ≤ b → b < w.heap.size + 3 → w2.heap[b]? = w1.heap[b]? := fun b h1 h2 => ho2.block b (by omega) (fun hs => by have := HS.out b hs; omega)
  have b2 := (hfar w.heap.size (by omega) (by omega)).trans b0
  have e2 := (hfar (w.heap.size + 1) (by omega) (by omega)).trans e0
  have a2 := (hfar (w.heap.size + 1 + 1) (by omega) (by omega)).trans a0
  have hs2 : w1.heap.size ≤ w2.heap.size := ho2.size
  have hoW : OnlyS S w w2 := (OnlyS.of_below hb1 (fun k hk _ => hk)).trans ho2
  clear b0 e0 a0 hfar
  rcases hcase with ⟨rfl, hok⟩ | ⟨c, rfl, hbad⟩
  · have ce : w2.cell? ⟨w.heap.size + 1, 0, none⟩ = some (.int .i64 0) := by rw [cell_of_heap e2]; rfl
    have fe : w2.frozen? ⟨w.heap.size + 1, 0, none⟩ = false := free_of_heap e2
    have HE := Lib.hid e2
    clear b2 e2 a2 HRead r1 r2
    have HB1 := Lib.hid hb1
    have HR2 := Lib.hid hr2
    have HO2 := Lib.hid ho2
    have HOk := Lib.hid hok
    have HoW := Lib.hid hoW
    have Hs1 := Lib.hid hs1
    clear hb1 hr2 ho2 hok hoW hs1
    go_wp2
    refine leaves_cons (f := 119) (args := #[.pointer (some ⟨w.heap.size + 1 + 1, 0, none⟩), .pointer (some ⟨w.heap.size, 0, none⟩), .pointer (some ⟨w.heap.size + 1, 0, none⟩)]) (by simp) (by simp [go_sem]) ?_
    refine (caught_idle _ _ _ _).mono ?_
    rintro e u' w3 ⟨rfl, rfl, rfl⟩
    have cE : (w2.setCell ⟨w.heap.size + 1, 0, none⟩ (.int .i64 0)).cell? ⟨w.heap.size + 1, 0, none⟩ = some (.int .i64 0) := by rw [cell_of_heap (heap_set_same HE.out _)]; rfl
    have fin : Attempted G R l k S Ok Bad w (.returned (.int .i64 0)) (w2.setCell ⟨w.heap.size + 1, 0, none⟩ (.int .i64 0)) :=
      ⟨w2, by have := Hs1.out; omega, HoW.out.setCell (fun h => by simp at h; omega) _, (OnlyS.refl _ w2).setCell (fun _ => .inr ⟨by simp, by simp⟩) _, .inl ⟨k', rfl, HR2.out.only (S := fun b => b = w.heap.size + 1) ((OnlyS.refl (fun b => b = w.heap.size + 1) _).setCell (p := ⟨w.heap.size + 1, 0, none⟩) (fun _ => rfl) _) (fun b hb he => by have := HI.out.facts; omega) (by omega), HOk.out⟩⟩
    clear ce fe
    simp [Leaves, settle, results, Tryz.results101, go_sem, cE, fin]
  · have HB1 := Lib.hid hb1
    have HR2 := Lib.hid hr2
    have HO2 := Lib.hid ho2
    have HBad := Lib.hid hbad
    have HoW := Lib.hid hoW
    have sz : w.heap.size + 3 ≤ w2.heap.size := by omega
    clear hb1 hr2 ho2 hbad hoW hs1 hs2 HRead r1 r2
    refine leaves_cons (f := 119) (args := #[.pointer (some ⟨w.heap.size + 1 + 1, 0, none⟩), .pointer (some ⟨w.heap.size, 0, none⟩), .pointer (some ⟨w.heap.size + 1, 0, none⟩)]) (by simp) (by simp [go_sem]) ?_
    refine (caught_one (w.heap.size + 1 + 1) w.heap.size (w.heap.size + 1) R (by have := HI.out.facts; omega) l k k' c 0 w2 HR2.out hkl a2 b2 e2 (by omega)).mono ?_
    rintro e u' w3 ⟨rfl, rfl, hc⟩
    have cE : w3.cell? ⟨w.heap.size + 1, 0, none⟩ = some (.int .i64 c) := by rw [cell_of_heap hc.2.1]; rfl
    have fin : Attempted G R l k S Ok Bad w (.returned (.int .i64 c)) w3 :=
      ⟨w2, sz, HoW.out.then hc.2.2 (fun b hb h => by rcases h with rfl | rfl; exact hSR; omega), hc.2.2.mono (fun b hb h => by rcases h with rfl | rfl; exact .inl rfl; exact .inr ⟨by omega, by omega⟩), .inr ⟨c, rfl, hc.1, HBad.out⟩⟩
    simp [Leaves, settle, results, Tryz.results101, go_sem, cE, fin]
end Go.Proofs.YtjdlgobcofphkaaGreatDoor

/- The reader's calls: a byte, a number, a text, the end. -/
namespace Go.Proofs.YtjdlgobcofphkaaGreatDoor
open Go.RowKit BinMath
variable {G : Nat}

theorem enters (F : FuncId) (hfn : ((Tryz.prog.funcs[F]?).map fun fn => (fn.name == "runtime.NumGoroutine", fn.body.isNone)) = some (false, false)) (args : Array Value) (w : World) : (callFunc F args).run Tryz.prog w = .ok (.enter F args) w := by
  obtain ⟨fn, hf, hp⟩ := Option.map_eq_some_iff.1 hfn
  simp only [Prod.mk.injEq] at hp
  have h1 : fn.name ≠ "runtime.NumGoroutine" := by simpa using hp.1
  have h2 : fn.body ≠ none := by intro hh; have := hp.2; rw [hh] at this; cases this
  simp [callFunc, hf, h1, h2]

set_option maxHeartbeats 400000 in
theorem attempt_stuck (fv : Value) (R : Nat) (l : List UInt8) (k : Nat) (st : Int) (w : World) (h : IsRd w R G l k st) (hst : st ≠ 0) :
    Calls Tryz.prog 101 #[.pointer (some ⟨R, 0, none⟩), fv] w fun e w' => e = .returned (.int .i64 st) ∧ Below w.heap.size w w' := by
  obtain ⟨b, cap, hRh, hkl, -⟩ := h
  have r2 : w.cell? ⟨R, 2, none⟩ = some (.int .i64 st) := by rw [cell_of_heap hRh]; rfl
  have sR : R < w.heap.size := (Array.getElem?_eq_some_iff.1 hRh).1
  have m4 : ¬ w.heap.size = R := by omega
  have hs : (st != 0) = true := by simpa using hst
  clear hRh hst
  go_enter_defers Tryz.func101, Tryz.ntmps101
  go_wp2
  have cE : ((w.alloc (.cells #[.pointer (some ⟨R, 0, none⟩)] 123)).alloc (.cells #[.int .i64 st] 45)).cell? ⟨w.heap.size + 1, 0, none⟩ = some (.int .i64 st) := by rw [World.cell?_alloc_at _ _ _ _ (by simp)]; rfl
  have fin : Below w.heap.size w ((w.alloc (.cells #[.pointer (some ⟨R, 0, none⟩)] 123)).alloc (.cells #[.int .i64 st] 45)) := ((Below.refl _ w).alloc (Nat.le_refl _) _).alloc (by simp) _
  simp [bodyPostD, Leaves, results, Tryz.results101, go_sem, fin]

/-- A variable of the caller's: block N holds u, alone. -/
def OneVar (w : World) (N : Nat) (t : TypeId) (u : Value) : Prop := w.heap[N]? = some (.cells #[u] t (0, 0))

set_option maxHeartbeats 400000 in
theorem num1_any (R N : Nat) (l : List UInt8) (k : Nat) (w : World) (h : IsRd w R G l k 0) (hN : OneVar w N 32 (.int .u64 0)) (hne : N ≠ R) (hGN : G ≤ N) :
    Calls Tryz.prog 102 #[.pointer (some ⟨R, 0, none⟩), .pointer (some ⟨N, 0, none⟩)] w (Reads G R l (fun b => b = R ∨ b = N)
      (fun k' w2 => ∃ n u, pNum (l.drop k) = .ok (n, u) ∧ k' = k + u ∧ OneVar w2 N 32 (.int .u64 (n : Int)))
      (fun c w2 => ∃ c' : Nat, c = c' ∧ pNum (l.drop k) = .error c' ∧ OneVar w2 N 32 (.int .u64 0)) w) := by
  have hC := number_any l k R 0 w h
  have sN : N < w.heap.size := (Array.getElem?_eq_some_iff.1 hN).1
  go_enter Tryz.func102, Tryz.ntmps102
  go_wp2_with fail
  refine hC.mono ?_
  rintro e w2 ⟨k', hr, ho, hm⟩
  have hN2 : OneVar w2 N 32 (.int .u64 0) := (ho.block N sN hne).trans hN
  cases hp : pNum (l.drop k) with
  | error c =>
    rw [hp] at hm
    obtain rfl := hm
    exact ⟨rfl, k', hr, OnlyS.of_only ho (.inl rfl), .inr ⟨_, rfl, c, rfl, hp, hN2⟩⟩
  | ok p =>
    obtain ⟨n, u⟩ := p
    rw [hp] at hm
    obtain ⟨rfl, rfl⟩ := hm
    have cN : w2.cell? ⟨N, 0, none⟩ = some (.int .u64 0) := by rw [cell_of_heap hN2]; rfl
    have fN : w2.frozen? ⟨N, 0, none⟩ = false := free_of_heap hN2
    have HP := Lib.hid hp
    have HR := Lib.hid hr
    have HO := Lib.hid ho
    have HN := Lib.hid hN2
    clear hp hr ho hN2 hC hN
    go_wp2
    go_end0
    refine ⟨k + u, HR.out.only (S := fun b => b = N) ((OnlyS.refl (fun b => b = N) _).setCell (p := ⟨N, 0, none⟩) (fun _ => rfl) _) (fun b hb he => by omega) (fun he => hne he.symm), (OnlyS.of_only HO.out (.inl rfl)).setCell (p := ⟨N, 0, none⟩) (fun _ => .inr rfl) _, .inl ⟨rfl, n, u, HP.out, rfl, ?_⟩⟩
    exact heap_set_same HN.out _

/-- A row is where it was. -/
theorem row_only {w w' : World} {B : Nat} {v : Value} {l : List UInt8} (h : Row w B v l) (hk : ∀ g, B ≤ g → w'.heap[g]? = w.heap[g]?) : Row w' B v l := by
  refine ⟨h.1, ?_⟩
  rcases h.2 with h2 | ⟨g, cap, cur, hv, hB, hg, r⟩
  · exact .inl h2
  · exact .inr ⟨g, cap, cur, hv, hB, by rw [hk g hB]; exact hg, r⟩

/-- How a call of the reader ends: v the value, c the error, k' the place behind. -/
def Answers (G R : Nat) (l : List UInt8) (w : World) (v : Value) (c k' : Nat) (e : Ending) (w' : World) : Prop :=
  Only R w w' ∧ e = .returned (.tuple #[v, .int .i64 (c : Int)]) ∧ IsRd w' R G l k' c

set_option maxHeartbeats 400000 in
theorem rdNum_ok (R : Nat) (l : List UInt8) (k : Nat) (w : World) (h : IsRd w R G l k 0) :
    Calls Tryz.prog 88 #[.pointer (some ⟨R, 0, none⟩)] w (Answers G R l w (.int .u64 ((numS l k 0).1 : Int)) (numS l k 0).2.1 (numS l k 0).2.2) := by
  have hmf : ∀ (fn : Fn) (first cap : Array Value) (w : World), (Instr.makeFunc fn first cap).run Tryz.prog w = .ok (.func fn first cap) w := fun _ _ _ _ => rfl
  have hf := h.facts
  have hA := attempt_any 102 #[.pointer (some ⟨w.heap.size, 0, none⟩)] (enters _ (by kernel_rfl)) R l k (w.alloc (.cells #[.int .u64 0] 32)) (h.below ((Below.refl _ _).alloc (Nat.le_refl _) _)) (fun b => b = R ∨ b = w.heap.size) _ _ (.inl rfl)
    (fun b hb => by rw [World.size_alloc]; omega)
    (fun w1 hb1 hs1 => by
      have hN : OneVar w1 w.heap.size 32 (.int .u64 0) := by
        unfold OneVar
        rw [hb1.block _ (by simp)]
        exact heap_alloc_new w _
      exact num1_any R w.heap.size l k w1 ((h.below ((Below.refl _ _).alloc (Nat.le_refl _) _)).below hb1) hN (by omega) hf.2.2.2)
  have HA := Lib.hid hA
  clear hA
  obtain ⟨n, c, k0, hq⟩ : ∃ n c k0, numS l k 0 = (n, c, k0) := ⟨_, _, _, rfl⟩
  have HQ := Lib.hid hq
  rw [hq]
  clear hq
  go_enter Tryz.func88, Tryz.ntmps88
  go_wp2_with fail
  refine HA.out.mono ?_
  rintro e w' ⟨w2, hsz, ho, ho2, hcase⟩
  have hN' : w'.heap[w.heap.size]? = w2.heap[w.heap.size]? := ho2.block _ (by rw [World.size_alloc] at hsz; omega) (by rw [World.size_alloc]; omega)
  have hon : Only R w w' := (OnlyS.then (S := fun b => b = R) (OnlyS.of_below ((Below.refl _ w).alloc (Nat.le_refl _) _) (fun _ hk _ => hk)) ho (fun b hb h => by omega)).only (fun b _ h => h)
  have hall : e = .returned (.int .i64 (c : Int)) ∧ IsRd w' R G l k0 c ∧ OneVar w' w.heap.size 32 (.int .u64 (n : Int)) := by
    have hq := HQ.out
    rcases hcase with ⟨k', rfl, hr, m, u, hp, rfl, hv⟩ | ⟨d, rfl, hr, d', rfl, hp, hv⟩
    · simp only [numS, hp] at hq
      cases hq
      exact ⟨rfl, hr, hN'.trans hv⟩
    · simp only [numS, hp] at hq
      cases hq
      exact ⟨rfl, hr, hN'.trans hv⟩
  obtain ⟨rfl, hr, hv⟩ := hall
  have cN : w'.cell? ⟨w.heap.size, 0, none⟩ = some (.int .u64 (n : Int)) := by rw [cell_of_heap hv]; rfl
  have fN : w'.frozen? ⟨w.heap.size, 0, none⟩ = false := free_of_heap hv
  have HV := Lib.hid hv
  have HR := Lib.hid hr
  have HO := Lib.hid hon
  clear ho ho2 hcase hN' hon hv hr HA hsz
  go_wp2
  have cE : (w'.setCell ⟨w.heap.size, 0, none⟩ (.int .u64 (n : Int))).cell? ⟨w.heap.size, 0, none⟩ = some (.int .u64 (n : Int)) := by rw [cell_of_heap (heap_set_same HV.out _)]; rfl
  refine bodyPost_ret (v := .tuple #[.int .u64 (n : Int), .int .i64 (c : Int)]) (by simp [results, Tryz.results88, go_sem, cE]) rfl ⟨HO.out.setNew (Nat.le_refl _) _, rfl, ?_⟩
  exact HR.out.only (S := fun b => b = w.heap.size) ((OnlyS.refl (fun b => b = w.heap.size) _).setCell (p := ⟨w.heap.size, 0, none⟩) (fun _ => rfl) _) (fun b hb he => by omega) (by omega)

set_option maxHeartbeats 400000 in
theorem rdNum_stuck (R : Nat) (l : List UInt8) (k st : Nat) (w : World) (h : IsRd w R G l k st) (hst : st ≠ 0) :
    Calls Tryz.prog 88 #[.pointer (some ⟨R, 0, none⟩)] w (Answers G R l w (.int .u64 0) st k) := by
  have hmf : ∀ (fn : Fn) (first cap : Array Value) (w : World), (Instr.makeFunc fn first cap).run Tryz.prog w = .ok (.func fn first cap) w := fun _ _ _ _ => rfl
  have hf := h.facts
  have hA := attempt_stuck (G := G) (.func (.func 102) #[] #[.pointer (some ⟨w.heap.size, 0, none⟩)]) R l k st (w.alloc (.cells #[.int .u64 0] 32)) (h.below ((Below.refl _ _).alloc (Nat.le_refl _) _)) (by omega)
  have HA := Lib.hid hA
  have HI := Lib.hid h
  clear hA h hst
  go_enter Tryz.func88, Tryz.ntmps88
  go_wp2_with fail
  refine HA.out.mono ?_
  rintro e w' ⟨rfl, hb⟩
  have hv : OneVar w' w.heap.size 32 (.int .u64 0) := by
    unfold OneVar
    rw [hb.block _ (by simp)]
    exact heap_alloc_new w _
  have hbw : Below w.heap.size w w' := ((Below.refl _ w).alloc (Nat.le_refl _) _).trans (hb.mono (by simp))
  have cN : w'.cell? ⟨w.heap.size, 0, none⟩ = some (.int .u64 0) := by rw [cell_of_heap hv]; rfl
  have fN : w'.frozen? ⟨w.heap.size, 0, none⟩ = false := free_of_heap hv
  have HV := Lib.hid hv
  have HO := Lib.hid hbw
  clear hb hbw hv HA
  go_wp2
  have cE : (w'.setCell ⟨w.heap.size, 0, none⟩ (.int .u64 0)).cell? ⟨w.heap.size, 0, none⟩ = some (.int .u64 0) := by rw [cell_of_heap (heap_set_same HV.out _)]; rfl
  have hbf := HO.out.setCell (p := ⟨w.heap.size, 0, none⟩) (Nat.le_refl _) (.int .u64 0)
  exact bodyPost_ret (v := .tuple #[.int .u64 0, .int .i64 (st : Int)]) (by simp [results, Tryz.results88, go_sem, cE]) rfl ⟨Only.of_below hbf, rfl, HI.out.below hbf⟩

theorem rdNum_any (R : Nat) (l : List UInt8) (k st : Nat) (w : World) (h : IsRd w R G l k st) :
    Calls Tryz.prog 88 #[.pointer (some ⟨R, 0, none⟩)] w (Answers G R l w (.int .u64 ((numS l k st).1 : Int)) (numS l k st).2.1 (numS l k st).2.2) := by
  by_cases hst : st = 0
  · subst hst
    exact rdNum_ok R l k w h
  · have e : numS l k st = (0, st, k) := if_pos hst
    rw [e]
    exact rdNum_stuck R l k st w h hst

end Go.Proofs.YtjdlgobcofphkaaGreatDoor

/- A new reader; what the laws of layer 1 begin with. -/
namespace Go.Proofs.YtjdlgobcofphkaaGreatDoor
open Go.RowKit BinMath
variable {G : Nat}

theorem bys_cells {w : World} {a : Option Addr} {len cap : Nat} {l : List UInt8} (h : Bys w (.slice a len cap) l) : len = l.length ∧ (0 < l.length → ∃ ad, a = some ad ∧ ∀ j v, (l.map bv)[j]? = some v → w.cell? (ad.add j) = some v) := by
  rcases h with ⟨h1, rfl⟩ | ⟨ad, cap', h1, hc⟩
  · simp at h1
    exact ⟨h1.2.1, fun h => by simp at h⟩
  · simp at h1
    obtain ⟨rfl, rfl, rfl⟩ := h1
    exact ⟨rfl, fun _ => ⟨ad, rfl, cells_bys hc⟩⟩

theorem made {w1 : World} {B T n : Nat} {xs : List Value} (h : w1.ownsRow B 5 1 (.slice (some ⟨T, 0, none⟩) n n) n xs) : ∃ cur, w1.heap[T]? = some (.cells cur 5 (0, 0)) ∧ cur.size = n := by
  rcases h.2 with ⟨h0, _⟩ | ⟨T', cap0, cur, hT, hBT, hg1, hnc, hcm0, hcs, htk⟩
  · cases h0
  · simp at hT
    obtain ⟨rfl, rfl⟩ := hT
    exact ⟨cur, hg1, by simpa using hcs⟩

theorem pos_ready {w w1 : World} {T : Nat} {a : Option Addr} {l : List UInt8} (hc : 0 < l.length → ∃ ad, a = some ad ∧ ∀ j v, (l.map bv)[j]? = some v → w.cell? (ad.add j) = some v) (hb : Below w.heap.size w w1) :
    0 < (l.map bv).length → some (⟨T, 0, none⟩ : Addr) = some ⟨T, 0, none⟩ ∧ ∃ ad, a = some ad ∧ ∀ j v, (l.map bv)[j]? = some v → w1.cell? (ad.add j) = some v := fun h => by
  rw [List.length_map] at h
  obtain ⟨ad, h1, h2⟩ := hc h
  refine ⟨rfl, ad, h1, fun j v hj => ?_⟩
  have h3 := h2 j v hj
  rw [hb.cell (World.block_lt_of_cell? w _ h3)]
  exact h3

set_option maxHeartbeats 400000 in
theorem rnew_any (a : Option Addr) (len cap : Nat) (l : List UInt8) (w : World) (hx : Bys w (.slice a len cap) l) (hl : l.length ≤ 140737488351232) :
    Calls Tryz.prog 87 #[.slice a len cap] w fun e w' => ∃ R, e = .returned (.pointer (some ⟨R, 0, none⟩)) ∧ w.heap.size ≤ R ∧ IsRd w' R w'.heap.size l 0 0 ∧ Below w.heap.size w w' := by
  obtain ⟨i0, hi, hz0, hz1, hz2⟩ := info_parts info_byte
  obtain ⟨hlen, hc⟩ := bys_cells hx
  have HX := Lib.hid hx
  have HC := Lib.hid hc
  have HLen := Lib.hid hlen
  have hll : len ≤ 140737488351232 := by omega
  clear hx hc hlen hl
  go_enter Tryz.func87, Tryz.ntmps87
  go_wp2_with (first | (at_make; refine wpList_make_full _ rfl _ _ 27 rfl w.heap.size 5 i0 (.int .u8 0) 1 Tryz.underlying27 hi hz0 hz1 _ _ _ _ len rfl rfl rfl rfl (by rw [hz2]; omega) (by unfold maxLen; omega) (Nat.le_refl _) ?_; intro w1 hown hgrow; (obtain ⟨cur, hg1, hcs⟩ := made hown); (have HB := Lib.hid ((Below.refl _ w).grown hgrow (Nat.le_refl _) (by simp))); (have HG := Lib.hid hg1); (have HCs := Lib.hid hcs); (have HPos := Lib.hid (pos_ready (T := w.heap.size) HC.out HB.out)); clear hown hgrow hg1 hcs) | (refine wpList_copy_splice rfl (.tmp 7) (.tmp 8) 27 27 rfl 5 Tryz.underlying27 (by kernel_rfl) _ _ _ _ _ _ rfl rfl w.heap.size 0 cur.toList 5 HG.out (l.map bv) (by rw [List.length_map, ← HLen.out]; show _ = min _ _; omega) HPos.out (by rw [List.length_map, ← HLen.out]; simp [HCs.out]) (one_bv l) w.heap.size w HB.out (Nat.le_refl _) ?_; intro w2 hg2 hb2; (have HB2 := Lib.hid hb2); clear hb2))
  go_wp2
  go_ret
  have hlen := HLen.out
  have hgs : w.heap.size < w2.heap.size := by
    have := hg2.out
    exact (Array.getElem?_eq_some_iff.1 this).1
  refine ⟨w2.heap.size, rfl, HB2.out.size, ⟨some ⟨w.heap.size, 0, none⟩, len, ?_, Nat.zero_le _, by omega, ⟨by omega, by unfold maxLen; omega, Nat.le_refl _⟩, .inr ⟨w.heap.size, rfl, by omega, by rw [World.size_alloc]; omega, fun i hi => ?_⟩⟩, HB2.out.alloc HB2.out.size _⟩
  · rw [← HLen.out]
    exact heap_alloc_new w2 _
  · have h1 : (w2.alloc (.cells #[.slice (some ⟨w.heap.size, 0, none⟩) len len, .int .i64 0, .int .i64 0] 134)).heap[w.heap.size]? = some (.cells (splice cur.toList 0 (l.map bv)).toArray 5 (0, 0)) := by
      rw [Below.heap_alloc _ _ _ hgs]; exact hg2.out
    refine (cell_of_heap h1).trans ?_
    have e : splice cur.toList 0 (l.map bv) = l.map bv := by
      have := HCs.out
      have := HLen.out
      simp [splice]
      omega
    rw [e]
    simp [hi]

theorem four_bytes (w : World) : Bys (w.alloc (.cells #[.int .u8 2, .int .u8 1, .int .u8 0, .int .u8 9] 5)) (.slice (some ⟨w.heap.size, 0, none⟩) 4 4) [2, 1, 0, 9] :=
  .inr ⟨⟨w.heap.size, 0, none⟩, 4, rfl, fun i hi => by
    rw [addr_add, Nat.zero_add, World.cell?_alloc_at _ _ _ _ rfl]
    have : i < 4 := hi
    match i, this with
    | 0, _ => rfl
    | 1, _ => rfl
    | 2, _ => rfl
    | 3, _ => rfl⟩

end Go.Proofs.YtjdlgobcofphkaaGreatDoor

/- bytes.Equal and bytes.Clone. -/
namespace Go.Proofs.YtjdlgobcofphkaaGreatDoor
open Go.RowKit FrameMath CrcMath

set_option maxHeartbeats 400000 in
theorem equal_any (va vb : Value) (la lb : List UInt8) (w : World) (ha : Bys w va la) (hb : Bys w vb lb) :
    Calls Tryz.prog 90 #[va, vb] w fun e w' => e = .returned (.bool (la == lb)) ∧ w = w' := by
  have c1 := conv_bys ha
  have c2 := conv_bys hb
  obtain ⟨X, hX⟩ : ∃ X : ByteArray, X = ⟨la.toArray⟩ := ⟨_, rfl⟩
  obtain ⟨Y, hY⟩ : ∃ Y : ByteArray, Y = ⟨lb.toArray⟩ := ⟨_, rfl⟩
  rw [← hX] at c1
  rw [← hY] at c2
  have he : (la == lb) = (X.toList == Y.toList) := by rw [hX, hY, ByteArray.toList_mk, ByteArray.toList_mk]
  rw [he]
  clear ha hb hX hY he
  go_enter Tryz.func90, Tryz.ntmps90
  go_wp2
  go_ret
  exact ⟨rfl, rfl⟩

set_option maxHeartbeats 400000 in
theorem fclone_any (a : Option Addr) (n c : Nat) (l : List UInt8) (w : World) (h : Bys w (.slice a n c) l) (hl : l.length ≤ 140737488355328) :
    Calls Tryz.prog 42 #[.slice a n c] w fun e w' => ∃ v', e = .returned v' ∧ Row w' w.heap.size v' l ∧ Below w.heap.size w w' := by
  have HX := Lib.hid h
  have qT : ∀ (w : World) (a : Option Addr) (n c n' c' : Nat), (binOp .eql 27 (.slice a n c) (.slice none n' c')).run Tryz.prog w = .ok (.bool a.isNone) w := fun w a n c n' c' => Lib.run_eql_slice_nil w _ _ a n c n' c' Tryz.underlying27
  rcases h with ⟨h1, rfl⟩ | ⟨ad, cap, h1, hc⟩
  · simp at h1
    obtain ⟨rfl, rfl, rfl⟩ := h1
    go_enter Tryz.func42, Tryz.ntmps42
    go_wp2
    go_ret
    exact ⟨_, rfl, World.ownsRow_nil _ _ _ _, Below.refl _ _⟩
  · simp at h1
    obtain ⟨rfl, rfl, rfl⟩ := h1
    clear hc
    have A1 := Lib.hid (append_lit (B := w.heap.size) (Nat.le_refl _) (heap_alloc_new w (.cells #[] 5)) (HX.out.below (Nat.le_refl _) ((Below.refl _ _).alloc (Nat.le_refl _) (.cells #[] 5))) hl)
    obtain ⟨m, hm⟩ : ∃ m, m = l.length := ⟨_, rfl⟩
    rw [← hm] at A1 ⊢
    clear hm
    go_enter Tryz.func42, Tryz.ntmps42
    go_wp2_with (at_builtin; refine wpList_append_by rfl _ _ 27 rfl _ _ rfl rfl _ A1.out ?_; rintro x w2 ⟨hr2, hb2⟩; (have HR2 := Lib.hid hr2); (have HB2 := Lib.hid hb2); clear hr2 hb2)
    go_ret
    exact ⟨_, rfl, HR2.out, ((Below.refl _ _).alloc (Nat.le_refl _) (.cells #[] 5)).trans (HB2.out.mono (by simp))⟩

/-- How One ends. -/
def OneEnd (w : World) (b : List UInt8) (e : Ending) (w' : World) : Prop :=
  Below w.heap.size w w' ∧ match oneF b with
    | .ok (t, n) => ∃ v, e = .returned (.tuple #[v, .int .i64 (n : Int), .int .i64 0]) ∧ Row w' w.heap.size v t
    | .error c => e = .returned (.tuple #[.slice none 0 0, .int .i64 0, .int .i64 (c : Int)])

theorem front_num (b : List UInt8) : BinMath.numS (b.take 9) 0 0 = match BinMath.pNum b with
    | .ok (n, u) => (n, 0, u)
    | .error c => (0, c, 0) := by
  simp only [BinMath.numS, ne_eq, not_true_eq_false, if_false, List.drop_zero, pNum_take]
  rcases BinMath.pNum b with c | ⟨n, u⟩ <;> simp

set_option maxRecDepth 100000 in
set_option maxHeartbeats 1000000 in
theorem one_any (a : Option Addr) (len cap : Nat) (b : List UInt8) (w : World) (hb : Bys w (.slice a len cap) b) (hl : b.length = len) (hc : len ≤ cap) (hn : len ≤ 140737488351232) (ht : Tab w) :
    Calls Tryz.prog 73 #[.slice a len cap] w (OneEnd w b) := by
  have HX := Lib.hid hb
  have HT := Lib.hid ht
  have HL := Lib.hid hl
  obtain ⟨k, hk⟩ : ∃ k, k = min len 9 := ⟨_, rfl⟩
  have hmin : ∀ (ts : Array TypeId) (t : TypeId) (W : World), (Builtin.min_ ts t #[.int .i64 (len : Int), .int .i64 9]).run Tryz.prog W = .ok (.int .i64 (k : Int)) W := fun ts t W => by
    rw [run_min_int2, hk]
    congr 2
    omega
  have hslice : ∀ W, (Instr.sliceAt 27 (.slice a len cap) none (some (.int .i64 (k : Int))) none).run Tryz.prog W = .ok (.slice a k cap) W := slice_to a len cap k (by omega)
  have hfront : Bys w (.slice a k cap) (b.take k) := hb.take k (by omega)
  have hbk : b.take k = b.take 9 := by
    rcases Nat.lt_or_ge len 9 with h | h
    · rw [List.take_of_length_le (by omega), List.take_of_length_le (by omega)]
    · rw [show k = 9 by omega]
  have hfl : (b.take 9).length = k := by rw [← hbk, List.length_take]; omega
  rw [hbk] at hfront
  have HN := Lib.hid (rnew_any a k cap (b.take 9) w hfront (by omega))
  have HFl := Lib.hid hfl
  have HK := Lib.hid hk
  have hk9 : k ≤ 9 := by omega
  clear hb hl ht hk hfront hbk hfl
  go_enter Tryz.func73, Tryz.ntmps73
  go_wp2_with fail
  refine HN.out.mono ?_
  rintro e w1 ⟨R, rfl, hR, hrd, hb1⟩
  clear hmin hslice HN
  have HB1 := Lib.hid hb1
  have hq := rdNum_any R (b.take 9) 0 0 w1 hrd
  rw [front_num] at hq
  cases hp : BinMath.pNum b with
  | error c =>
    rw [hp] at hq
    have hc0 := BinMath.pNum_err hp
    have HQ := Lib.hid hq
    have HO := Lib.hid (one_err hp)
    have hcne : ((c : Int) != 0) = true := by simp; omega
    clear hq hb1 hrd hp hc0
    go_wp2_with fail
    refine HQ.out.mono ?_
    rintro e w2 ⟨ho, rfl, hr⟩
    have HB2 := Lib.hid (HB1.out.trans (ho.below hR HB1.out.size))
    clear ho hr HQ
    go_wp2
    exact bodyPost_ret (v := .tuple #[.slice none 0 0, .int .i64 0, .int .i64 (c : Int)]) (by simp [results, Tryz.results73, go_sem]) rfl ⟨HB2.out, by rw [HO.out]⟩
  | ok p =>
    obtain ⟨n, u⟩ := p
    rw [hp] at hq
    have HQ := Lib.hid hq
    have hu9 := pNum_used9 hp
    have hul := (BinMath.pNum_used hp)
    have hn64 : n < 18446744073709551616 := hul.2.1
    have hku : u ≤ k := by have := HK.out; have := HL.out; omega
    have HP := Lib.hid hp
    clear hq hb1 hrd hp hul hu9
    go_wp2_with fail
    refine HQ.out.mono ?_
    rintro e w2 ⟨ho, rfl, hr⟩
    have HB2 := Lib.hid (HB1.out.trans (ho.below hR HB1.out.size))
    have HLeft := Lib.hid (left_any (b.take 9) u 0 R w2 hr)
    clear ho hr HQ
    by_cases hbig : 32768 < n
    · have HO := Lib.hid (one_long HP.out hbig)
      go_wp2
      exact bodyPost_ret (v := .tuple #[.slice none 0 0, .int .i64 0, .int .i64 4]) (by simp [results, Tryz.results73, go_sem]) rfl ⟨HB2.out, by rw [HO.out]; rfl⟩
    · obtain ⟨q, hq⟩ : ∃ q, q = (b.take 9).length - u := ⟨_, rfl⟩
      have hkq : k = u + q := by have := HFl.out; omega
      rw [← hq] at HLeft
      have HKQ := Lib.hid hkq
      clear hq
      go_wp2_with fail
      refine HLeft.out.mono ?_
      rintro e w3 ⟨rfl, nq, rfl⟩
      by_cases hsh : len < u + n + 4
      · have HO := Lib.hid (one_short HP.out (by omega) (by have := HL.out; omega))
        go_wp2
        exact bodyPost_ret (v := .tuple #[.slice none 0 0, .int .i64 0, .int .i64 2]) (by simp [results, Tryz.results73, go_sem]) rfl ⟨below_dn HB2.out nq, by rw [HO.out]; rfl⟩
      have HO := Lib.hid (one_form HP.out (by omega) (by have := HL.out; omega))
      obtain ⟨a1, h1, h2⟩ := bys_mid a len cap (u + n) (u + n + 4) b w HX.out (by omega) (by omega) hc
      have h3 := slice_to a len cap (u + n) (by omega)
      have h4 := HX.out.take (u + n) (by have := HL.out; omega)
      obtain ⟨a5, h5, h6⟩ := bys_mid a len cap u (u + n) b w HX.out (by omega) (by omega) hc
      have e1 : ((u + n : Nat) : Int) = (u : Int) + (n : Int) := by omega
      have e2 : ((u + n + 4 : Nat) : Int) = (u : Int) + (n : Int) + 4 := by omega
      rw [e1, e2, show u + n + 4 - (u + n) = 4 by omega] at h1
      rw [show u + n + 4 - (u + n) = 4 by omega] at h2
      rw [e1] at h3
      rw [e1, show u + n - u = n by omega] at h5
      rw [show u + n - u = n by omega] at h6
      obtain ⟨c1, hc1⟩ : ∃ c1, c1 = cap - (u + n) := ⟨_, rfl⟩
      obtain ⟨c5, hc5⟩ : ∃ c5, c5 = cap - u := ⟨_, rfl⟩
      obtain ⟨E, hE⟩ : ∃ E, E = u + n := ⟨_, rfl⟩
      obtain ⟨B, hB⟩ : ∃ B, B = b.take (u + n) := ⟨_, rfl⟩
      obtain ⟨S4, hS4⟩ : ∃ S4, S4 = (b.take (u + n + 4)).drop (u + n) := ⟨_, rfl⟩
      obtain ⟨Rt, hRt⟩ : ∃ Rt, Rt = (b.take (u + n)).drop u := ⟨_, rfl⟩
      obtain ⟨r, hr⟩ : ∃ r, r = (S4 == sealF B) := ⟨_, rfl⟩
      rw [← hc1] at h1 h2
      rw [← hS4] at h2
      rw [← hc5] at h5 h6
      rw [← hRt] at h6
      rw [← hE] at h3 h4
      rw [hE, ← hB] at h4
      rw [← hE] at h4
      have hBl : B.length = E := by rw [hB, hE, List.length_take]; have := HL.out; omega
      have hRl : Rt.length = n := by rw [hRt, List.length_drop, List.length_take]; have := HL.out; omega
      have hEn : E ≤ 32777 := by have := pNum_used9 HP.out; omega
      have hfin : oneF b = if r = true then .ok (Rt, u + n + 4) else .error 3 := by
        rw [HO.out, hr, hS4, hRt, hB]
        rw [show (b.drop (u + n)).take 4 = (b.take (u + n + 4)).drop (u + n) by rw [List.drop_take, show u + n + 4 - (u + n) = 4 by omega], show (b.drop u).take n = (b.take (u + n)).drop u by rw [List.drop_take, show u + n - u = n by omega]]
        simp only [beq_iff_eq]
      have HFin := Lib.hid hfin
      have HS1 := Lib.hid h1
      have HS4 := Lib.hid h2
      have HS2 := Lib.hid h3
      have HB := Lib.hid h4
      have HS5 := Lib.hid h5
      have HRt := Lib.hid h6
      have HBl : Hid (B.length ≤ 32777) := by rw [hBl]; exact hEn
      have HRl := Lib.hid hRl
      have Hr := Lib.hid hr
      clear h1 h2 h3 h4 h5 h6 hBl hfin hr hB hS4 hRt hc1 hc5 hE hEn hRl
      go_wp2
      have HB3 := Lib.hid (show Below w.heap.size w (w2.drewN nq) by have h := HB2.out; exact ⟨h.os, h.tape, h.output, h.size, h.block⟩)
      have hG : ∀ W W' : World, Below w.heap.size w W → Below W.heap.size W W' → Below w.heap.size w W' := fun W W' hW hb => hW.trans (hb.mono hW.size)
      refine region_by [(44, .is (.slice a len cap)), (45, .is (.int .i64 ((u : Int) + (n : Int)))), (46, .is (.int .i64 ((u : Int) + (n : Int) + 4))), (47, .is (.slice a1 4 c1)), (48, .is (.slice a len cap)), (49, .is (.int .i64 ((u : Int) + (n : Int)))), (50, .is (.slice a E cap)), (51, .row w.heap.size (sealF B)), (52, .is (.bool r)), (53, .is (.bool (!r)))] [0, 9, 10, 11, 53] (fun W => Below w.heap.size w W) (by kernel_rfl) (by kernel_rfl) (by kernel_rfl) (by kernel_rfl) (by kernel_rfl) (hG _ _ HB3.out (Below.refl _ _).drew) ?_ ?_
      · refine ⟨?a0, ?a1, ?a2, ?a3, ?a4, ?a5, ?a6, ?a7, ?a8, ?a9, trivial⟩
        case a0 => exact ask_copy (guard_none rfl) (.tmp 0) (.inl rfl) (by intro k hk; cases hk; rfl)
        case a1 => exact ask_copy (guard_none rfl) (.tmp 10) (.inl rfl) (by intro k hk; cases hk; rfl)
        case a2 => exact ask_copy (guard_none rfl) (.tmp 11) (.inl rfl) (by intro k hk; cases hk; rfl)
        case a3 => exact ask_slice (guard_none rfl) _ _ _ _ _ _ _ (some (.int .i64 ((u : Int) + (n : Int)))) (some (.int .i64 ((u : Int) + (n : Int) + 4))) none rfl rfl rfl rfl rfl (by intro k hk; cases hk; rfl) HS1.out
        case a4 => exact ask_copy (guard_none rfl) (.tmp 0) (.inl rfl) (by intro k hk; cases hk; rfl)
        case a5 => exact ask_copy (guard_none rfl) (.tmp 10) (.inl rfl) (by intro k hk; cases hk; rfl)
        case a6 => exact ask_slice (guard_none rfl) _ _ _ _ _ _ _ none (some (.int .i64 ((u : Int) + (n : Int)))) none rfl rfl rfl rfl rfl (by intro k hk; cases hk; rfl) HS2.out
        case a7 => exact ask_call hG (guard_none rfl) _ _ _ #[.slice a E cap] (.row w.heap.size (sealF B)) rfl (by kernel_rfl) rfl rfl (by intro k hk; cases hk; rfl) (fun W hW => (sumOf_any _ B W (HB.out.below (Nat.le_refl _) hW) (by have := HBl.out; omega) (HT.out.below (Nat.le_refl _) hW)).mono fun e w' h => by
          obtain ⟨v, h1, h2, h3⟩ := h
          exact ⟨v, h1, row_lower h2 hW.size, h3⟩)
        case a8 => exact ask_call_by hG (guard_none rfl) _ _ _ (.is (.bool r)) rfl (by kernel_rfl) (by intro k hk; cases hk; rfl) (fun x W hW hk => by
          have e1 : x 47 = .slice a1 4 c1 := hk 47 rfl
          have e2 : Row W w.heap.size (x 51) (sealF B) := hk 51 rfl
          show Calls _ _ #[x 47, x 51] W _
          rw [e1]
          exact (equal_any _ (x 51) S4 (sealF B) W (HS4.out.below (Nat.le_refl _) hW) e2.bys).mono fun e w' h => by
            obtain ⟨h1, rfl⟩ := h
            exact ⟨_, h1, by rw [Hr.out]; rfl, Below.refl _ _⟩)
        case a9 => exact ask_exec (guard_none rfl) (.bool (!r)) rfl rfl (by intro k hk; cases hk; rfl) (fun W hW => by kernel_rfl)
      intro a2 W2 hW2 hd2 hs2 hf2
      have t0 : a2.tmps.getD 0 undef = .slice a len cap := hf2 0 rfl
      have t9 : a2.tmps.getD 9 undef = .int .i64 (u : Int) := hf2 9 rfl
      have t10 : a2.tmps.getD 10 undef = .int .i64 ((u : Int) + (n : Int)) := hf2 10 rfl
      have t11 : a2.tmps.getD 11 undef = .int .i64 ((u : Int) + (n : Int) + 4) := hf2 11 rfl
      have t53 : a2.tmps.getD 53 undef = .bool (!r) := hf2 53 rfl
      obtain ⟨us, hus, ha'⟩ := act_open 60 a2 hs2 hd2
      rw [← hus] at t0 t9 t10 t11 t53
      have el : ((List.range 60).map us).toArray = #[us 0, us 1, us 2, us 3, us 4, us 5, us 6, us 7, us 8, us 9, us 10, us 11, us 12, us 13, us 14, us 15, us 16, us 17, us 18, us 19, us 20, us 21, us 22, us 23, us 24, us 25, us 26, us 27, us 28, us 29, us 30, us 31, us 32, us 33, us 34, us 35, us 36, us 37, us 38, us 39, us 40, us 41, us 42, us 43, us 44, us 45, us 46, us 47, us 48, us 49, us 50, us 51, us 52, us 53, us 54, us 55, us 56, us 57, us 58, us 59] := rfl
      rw [el] at ha'
      subst ha'
      rw [t0, t9, t10, t11, t53]
      clear hus t0 t9 t10 t11 t53 el hf2 hs2 hd2
      have HW := Lib.hid hW2
      clear hW2 hG
      have HClone := Lib.hid (fclone_any a5 n c5 Rt W2 (HRt.out.below (Nat.le_refl _) HW.out) (by have := HRl.out; omega))
      have hs5 := HS5.out W2
      cases r with
      | false =>
        go_wp2
        exact bodyPost_ret (v := .tuple #[.slice none 0 0, .int .i64 0, .int .i64 3]) (by simp [results, Tryz.results73, go_sem]) rfl ⟨HW.out, by rw [HFin.out]; rfl⟩
      | true =>
        go_wp2_with fail
        refine HClone.out.mono ?_
        rintro e w5 ⟨v, rfl, hrow, hb5⟩
        have HR5 := Lib.hid (row_lower hrow HW.out.size)
        have HB5 := Lib.hid (HW.out.trans (hb5.mono HW.out.size))
        clear hrow hb5 hs5
        go_wp2
        exact bodyPost_ret (v := .tuple #[v, .int .i64 ((u : Int) + (n : Int) + 4), .int .i64 0]) (by simp [results, Tryz.results73, go_sem]) rfl ⟨HB5.out, by rw [HFin.out]; exact ⟨v, by congr 5, HR5.out⟩⟩
end Go.Proofs.YtjdlgobcofphkaaGreatDoor

