/- copied and awake. -/
import Derived.Test.YtboongdoggggoaaCmdRefGet
import Derived.Test.YtboongdoggggoaaCmdRefPut
import Derived.Lib.SlBytesConst
namespace Go.Proofs.Ytboongdoggggoaa
set_option maxRecDepth 20000
open Go.RowKit BinMath CmdMath

theorem one_uv (l : List Nat) : ∀ u ∈ l.map uv, u.oneCell' = true := by
  intro u hu
  obtain ⟨c, _, rfl⟩ := List.mem_map.1 hu
  rfl

theorem cells_nums {w : World} {ad : Addr} {l : List Nat} (hc : ∀ i (h : i < l.length), w.cell? (ad.add i) = some (.int .u64 (l[i] : Int))) : ∀ (j : Nat) (u : Value), (l.map uv)[j]? = some u → w.cell? (ad.add j) = some u := by
  intro j u h
  have hj : j < l.length := by have := (List.getElem?_eq_some_iff.1 h).1; simpa using this
  rw [hc j hj]
  simpa [hj, uv] using h

/-- append([]uint64{}, x...): nothing that was there is written. -/
theorem append_num_lit {w : World} {B g : Nat} {x : Value} {l : List Nat} (hB : B ≤ g) (hg : w.heap[g]? = some (.cells #[] 33 (0, 0))) (hx : Nums w x l) (hlen : l.length ≤ 17592186043904) :
    ∃ v' w', (Builtin.append_ #[43, 43] 43 #[.slice (some ⟨g, 0, none⟩) 0 0, x]).run Try.prog w = .ok v' w' ∧ NRow w' B v' l ∧ Below w.heap.size w w' := by
  obtain ⟨i0, hi, hz0, hz1, hz2⟩ := info_parts info_num
  have hlt : g < w.heap.size := (Array.getElem?_eq_some_iff.1 hg).1
  have hrow : w.ownsRow B 33 1 (.slice (some ⟨g, 0, none⟩) 0 0) 0 [] := ⟨rfl, .inr ⟨g, 0, #[], rfl, hB, hg, Nat.le_refl _, by unfold maxLen; omega, rfl, rfl⟩⟩
  rcases hx with ⟨rfl, rfl⟩ | ⟨ad, cap, rfl, -, hc⟩
  · exact ⟨_, w, run_append_owned_none (P := Try.prog) (w := w) B _ _ _ i0 1 Try.underlying43 hi _ 0 [] hrow, hrow, Below.refl _ _⟩
  · by_cases hl : l = []
    · subst hl
      have hr := run_append_room (P := Try.prog) w 43 43 33 i0 Try.underlying43 hi g 0 0 #[] hg ad 0 cap [] (by simp) (by simp) (by simp) (by omega) (by simp)
      refine ⟨_, _, hr, ?_, ⟨rfl, rfl, rfl, by simp, fun k hk => ?_⟩⟩
      · refine ⟨rfl, .inr ⟨g, 0, #[], rfl, hB, ?_, Nat.le_refl _, by unfold maxLen; omega, rfl, rfl⟩⟩
        simpa using setRow_heap w g #[] _ 33 _ hg
      · by_cases hkg : k = g
        · subst hkg
          rw [hg]
          simpa using setRow_heap w k #[] _ 33 _ hg
        · exact setRow_other w g k _ hkg
    · have hpos : 0 < l.length := List.length_pos_iff.2 hl
      have hr := run_append_grow (P := Try.prog) w 43 43 33 i0 (.int .u64 0) Try.underlying43 hi hz0 ⟨g, 0, none⟩ 0 0 [] (by simp) (by simp) ad l.length cap (l.map uv) (by simp [hz1]) (cells_nums hc) (by omega) (by omega) (growslice_fits (by omega) (by rw [hz2]; omega))
      refine ⟨_, _, hr, ?_, (Below.refl _ _).drew.alloc (Nat.le_refl _) _⟩
      have hge := grownCap_ge w (0 + l.length) 0 33
      have hge' := grownCap_ge w l.length 0 33
      have hle := grownCap_le_maxLen w (0 + l.length) 0 33 (by unfold maxLen; omega)
      refine ⟨by simp, .inr ⟨w.heap.size, _, _, by rw [Nat.zero_add], by omega, heap_alloc_new w.drew _, by omega, hle, ?_, ?_⟩⟩
      · simp [size_zeroCells]
        simp [Value.cells]
        omega
      · simp

theorem get_is {a : Option Addr} {len cap : Nat} {l : List UInt8} {x : Ent} {c : Nat} {w : World} (hr : getR l = (x, c)) (hx : Bys w (.slice a len cap) l) (hl : l.length ≤ 140737488351232) :
    Calls Try.prog 45 #[.slice a len cap] w fun e w' => ∃ a' ca b' cb, e = .returned (.tuple #[.agg (entC x a' ca b' cb), .int .i64 (c : Int)]) ∧ Mine w' w.heap.size x a' ca b' cb ∧ Below w.heap.size w w' := by
  have h := get_any a len cap l w hx hl
  unfold GetEnd at h
  rw [hr] at h
  exact h

theorem refget_is {a : Option Addr} {len cap : Nat} {l : List UInt8} {x : Ent} {c : Nat} {w : World} (hr : getR l = (x, c)) (hx : Bys w (.slice a len cap) l) (hl : l.length ≤ 140737488351232) (hlc : len ≤ cap) :
    Calls Try.prog 46 #[.slice a len cap] w fun e w' => ∃ a' ca b' cb, e = .returned (.tuple #[.agg (entC x a' ca b' cb), .int .i64 (c : Int)]) ∧ Mine w' w.heap.size x a' ca b' cb ∧ Below w.heap.size w w' := by
  have h := refget_any a len cap l w hx hl hlc
  unfold GetEnd at h
  rw [hr] at h
  exact h

theorem same_self (e : Ent) (a b a' b' : Option Addr) (ca cb ca' cb' : Nat) (w : World) (he : Has w e a ca b cb) (hf : Has w e a' ca' b' cb') :
    Calls Try.prog 50 #[.agg (entC e a ca b cb), .agg (entC e a' ca' b' cb')] w fun r w' => r = .returned (.bool true) ∧ Below w.heap.size w w' := by
  have h := same_any e e a b a' b' ca cb ca' cb' w he hf
  rwa [decide_eq_true (rfl : e = e)] at h

theorem refSame_self (e : Ent) (a b a' b' : Option Addr) (ca cb ca' cb' : Nat) (w : World) (he : Has w e a ca b cb) (hf : Has w e a' ca' b' cb') :
    Calls Try.prog 47 #[.agg (entC e a ca b cb), .agg (entC e a' ca' b' cb')] w fun r w' => r = .returned (.bool true) ∧ Below w.heap.size w w' := by
  have h := refSame_any e e a b a' b' ca cb ca' cb' w he hf
  rwa [decide_eq_true (rfl : e = e)] at h

theorem const_bys (W : World) (xs : Array Value) (l : List UInt8) (n c : Nat) (hn : l.length = n) (m : Nat × Nat) (hx : (l.map bv).toArray = xs) (g : Nat) (hg : g = W.heap.size) : Bys (W.alloc (.cells xs 5 m)) (.slice (some ⟨g, 0, none⟩) n c) l := by
  subst hx hg
  refine .inr ⟨_, c, by rw [hn], fun i hi => ?_⟩
  rw [addr_add, Nat.zero_add, World.cell?_alloc_mark]
  simp [hi]

/-- The entry that is awake's. -/
def wakeE : Ent := ⟨2, 2, 3, 0, [97], []⟩

set_option maxHeartbeats 4000000 in
theorem awake_any (w : World) : Calls Try.prog 44 #[] w fun e w' => e = .returned (.bool true) ∧ Below w.heap.size w w' := by
  have b1 : Below w.heap.size w (w.alloc (.cells #[.int .u8 97] 5 (1, 2))) := (Below.refl _ _).alloc (Nat.le_refl _) _
  have hH : Has (w.alloc (.cells #[.int .u8 97] 5 (1, 2))) wakeE (some ⟨w.heap.size, 0, none⟩) 1 none 0 :=
    ⟨⟨by decide, by decide, by decide, by decide, by decide, by simp [wakeE]⟩, const_bys w _ [97] 1 1 rfl _ rfl _ rfl, .inl ⟨rfl, rfl⟩, by decide, by decide⟩
  have hP := put_yes wakeE _ _ _ _ _ hH (by decide)
  have hl : putL wakeE = [1, 2, 2, 1, 3, 0, 1, 1, 97] := by decide
  rw [hl] at hP
  have HP := Lib.hid hP
  have HB := Lib.hid b1
  clear hP hl hH b1
  simp only [entC, wakeE] at HP
  have kc := fun (w : World) (C : Array Value) (n c : Nat) => Lib.run_convert_bytes_const (P := Try.prog) w 22 5 C n c Try.underlying22 Try.underlying5
  go_enter Try.func44, Try.ntmps44
  go_wp2_with fail
  refine HP.out.mono ?_
  rintro e w2 ⟨v, rfl, hr, hb⟩
  have hc := conv_bys hr.bys
  have HB2 := Lib.hid (HB.out.trans (hb.mono HB.out.size))
  have b3 : Below w2.heap.size w2 (w2.alloc (.cells #[.int .u64 1, .int .u64 3] 33)) := (Below.refl _ _).alloc (Nat.le_refl _) _
  have hN : Nums (w2.alloc (.cells #[.int .u64 1, .int .u64 3] 33)) (.slice (some ⟨w2.heap.size, 0, none⟩) 2 2) [1, 3] := by
    refine .inr ⟨_, 2, rfl, Nat.le_refl _, fun i hi => ?_⟩
    have h2 : i < 2 := hi
    rw [addr_add, Nat.zero_add]
    rcases i with _ | _ | i
    · simp [World.cell?_alloc_at]
    · simp [World.cell?_alloc_at]
    · omega
  have hM := members_any _ _ _ hN (by decide) (by intro x hx; simp at hx; omega)
  have hm : memOk [1, 3] = true := by decide
  rw [hm] at hM
  have HM := Lib.hid hM
  have HB3 := Lib.hid (HB2.out.trans (b3.mono HB2.out.size))
  clear hr hb b3 hN hM hm
  go_wp2_with fail
  refine HM.out.mono ?_
  rintro e w3 ⟨rfl, rfl⟩
  go_wp2
  go_ret
  exact ⟨rfl, HB3.out⟩

end Go.Proofs.Ytboongdoggggoaa
