/- Joined: WalRef2, WalRef3, WalSame, WalFuse, WalLawMath. -/
import Derived.Test.YthaggdkfaglgaaaGreatDoorJW4
import Derived.Test.YthaggdkfaglgaaaGreatDoorJW1
/- The reference's log in memory: Get, Appended, Fits, Take. -/
namespace Go.Proofs.YthaggdkfaglgaaaGreatDoor
set_option maxRecDepth 20000
open Go.RowKit Go.Maps DiskMath WalMath FrameMath Reg

/-- A part of a list. -/
theorem ListO.sub {w : World} {a : Option Addr} {c : Nat} {us : List Value} (h : ListO w (.slice a us.length c) us) (lo hi m : Nat) (h1 : lo ≤ hi) (h2 : hi ≤ us.length) (h3 : hi ≤ m) (h4 : m ≤ c) :
    ∃ a', sliced a lo hi m 1 = .slice a' (hi - lo) (m - lo) ∧ ListO w (.slice a' (hi - lo) (m - lo)) ((us.take hi).drop lo) ∧ ∀ j, (Value.slice a' (hi - lo) (m - lo)).ownBlock = some j → (Value.slice a us.length c).ownBlock = some j := by
  have el : ((us.take hi).drop lo).length = hi - lo := by rw [List.length_drop, List.length_take]; omega
  rcases h with ⟨e, rfl⟩ | ⟨g, o, cap, cur, e, hg, b1, b2, b4⟩
  · simp at e
    obtain ⟨rfl, rfl⟩ := e
    obtain rfl : hi = 0 := by simpa using h2
    obtain rfl : lo = 0 := by omega
    obtain rfl : m = 0 := by omega
    exact ⟨none, rfl, .inl ⟨rfl, rfl⟩, fun j hj => hj⟩
  · simp at e
    obtain ⟨rfl, rfl⟩ := e
    by_cases hml : m = lo
    · refine ⟨some ⟨g, o, none⟩, by unfold sliced; rw [if_pos hml], .inr ⟨g, o, m - lo, cur, by rw [el], hg, by rw [el]; omega, by omega, fun i y hi' => ?_⟩, fun j hj => hj⟩
      have := (List.getElem?_eq_some_iff.1 hi').1
      rw [el] at this
      omega
    · refine ⟨some ⟨g, o + lo, none⟩, by unfold sliced; rw [if_neg hml]; simp [addr_add], .inr ⟨g, o + lo, m - lo, cur, by rw [el], hg, by rw [el]; omega, by omega, fun i y hi' => ?_⟩, fun j hj => hj⟩
      have hlt := (List.getElem?_eq_some_iff.1 hi').1
      rw [el] at hlt
      rw [List.getElem?_drop, List.getElem?_take_of_lt (by omega)] at hi'
      rw [show o + lo + i = o + (lo + i) by omega]
      exact b4 _ y hi'

theorem ut_txs : Tryz.prog.underlying 33 = some (.slice (Tryz.prog.elem 33)) := by rw [elem_txs]; exact Tryz.underlying33

theorem slice_txs_lh (b : Option Addr) (n c lo hi : Nat) (k : IntKind) (h1 : lo ≤ hi) (h2 : hi ≤ c) (W : World) : (Instr.sliceAt 33 (.slice b n c) (some (.int k (lo : Int))) (some (.int k (hi : Int))) none).run Tryz.prog W = .ok (sliced b lo hi c 1) W := by
  rw [run_sliceAt_slice _ _ _ _ _ _ ut_txs, run_slice_lh _ _ _ _ _ ut_txs k k (lo : Int) (hi : Int) (by omega) (by omega) (by omega), elem_txs, size_txt]
  simp only [Result.andThen_ok, Int.toNat_natCast]

theorem slice_txs_h (b : Option Addr) (n c hi : Nat) (k : IntKind) (h2 : hi ≤ c) (W : World) : (Instr.sliceAt 33 (.slice b n c) none (some (.int k (hi : Int))) none).run Tryz.prog W = .ok (sliced b 0 hi c 1) W := by
  rw [run_sliceAt_slice _ _ _ _ _ _ ut_txs, run_slice_h _ _ _ _ _ ut_txs k (hi : Int) (by omega) (by omega), elem_txs, size_txt]
  simp only [Result.andThen_ok, Int.toNat_natCast]

theorem slice_txs_l (b : Option Addr) (n c lo : Nat) (k : IntKind) (h1 : lo ≤ n) (W : World) : (Instr.sliceAt 33 (.slice b n c) (some (.int k (lo : Int))) none none).run Tryz.prog W = .ok (sliced b lo n c 1) W := by
  rw [run_sliceAt_slice _ _ _ _ _ _ ut_txs, run_slice_l _ _ _ _ _ ut_txs k (lo : Int) (by omega) (by omega), elem_txs, size_txt]
  simp only [Result.andThen_ok, Int.toNat_natCast]

theorem slice_txs_hm (b : Option Addr) (n c : Nat) (k : IntKind) (h2 : n ≤ c) (W : World) : (Instr.sliceAt 33 (.slice b n c) none (some (.int k (n : Int))) (some (.int k (n : Int)))).run Tryz.prog W = .ok (sliced b 0 n n 1) W := by
  rw [run_sliceAt_slice _ _ _ _ _ _ ut_txs, run_slice_hm _ _ _ _ _ ut_txs k k (n : Int) (n : Int) (by omega) (by omega) (by omega), elem_txs, size_txt]
  simp only [Result.andThen_ok, Int.toNat_natCast]

theorem RL.list {w : World} {X : Nat → Prop} {x : Nat} {W : WS} (h : RL w X x W) {i : Nat} {t : List UInt8} (hi : W.recs[i]? = some t) :
    ∃ g o c' u, Blk w x 35 (refC W (.slice (some ⟨g, o, none⟩) W.recs.length c')) ∧ w.cell? ⟨g, o + i, none⟩ = some u ∧ Row w 0 u t := by
  obtain ⟨v, us, l1, l2, l3, l4, _⟩ := h.ex
  have hlt := (List.getElem?_eq_some_iff.1 hi).1
  obtain ⟨u, hu⟩ : ∃ u, us[i]? = some u := ⟨us[i]'(by omega), List.getElem?_eq_getElem _⟩
  obtain ⟨g, o, c', rfl, hc⟩ := l2.at_ hu
  rw [l3] at l1
  exact ⟨g, o, c', u, l1, hc, l4 i u t hu hi⟩

set_option maxHeartbeats 1000000 in
theorem rGet_some {w : World} {X : Nat → Prop} {x : Nat} {W : WS} (h : RL w X x W) (i : Nat) (t : List UInt8) (hi : W.recs[i]? = some t) :
    Calls Tryz.prog 98 #[.pointer (some ⟨x, 0, none⟩), .int .u64 ((W.first + i : Nat) : Int)] w fun e w' => ∃ v, e = .returned (.tuple #[v, .int .i64 0]) ∧ Bys w' v t ∧ Below w.heap.size w w' := by
  have H2 := Lib.hid (rNext_any h)
  obtain ⟨g, o, c', u, hb, hc, hr⟩ := h.list hi
  have hlim := h.ok.lim
  have hlt := (List.getElem?_eq_some_iff.1 hi).1
  have HB := Lib.hid hb
  have HCell := Lib.hid hc
  have HRow := Lib.hid hr
  obtain ⟨f, hf⟩ : ∃ f, f = W.first := ⟨_, rfl⟩
  have HF := Lib.hid hf
  obtain ⟨n, hn⟩ : ∃ n, n = W.first + W.recs.length := ⟨_, rfl⟩
  obtain ⟨m, hm⟩ : ∃ m, m = W.first + i := ⟨_, rfl⟩
  rw [← hn] at H2
  rw [← hm]
  have h1 : ¬ m < f := by omega
  have h2 : ¬ n ≤ m := by omega
  have i1 : decide ((m : Int) < (f : Int)) = false := by simpa using h1
  have i2 : decide (m < f) = false := by simpa using h1
  have i3 : decide ((n : Int) ≤ (m : Int)) = false := by simpa using h2
  have i4 : decide (n ≤ m) = false := by simpa using h2
  obtain ⟨L, hL⟩ : ∃ L, L = W.recs.length := ⟨_, rfl⟩
  rw [← hL] at HB hlt
  have hsub : ∀ (t : TypeId) (a b : Operand) (W : World), (do eqGuard .sub t a b (.int .u64 (m : Int)) (.int .u64 (f : Int)); binOp .sub t (.int .u64 (m : Int)) (.int .u64 (f : Int)) : Sem Value).run Tryz.prog W = .ok (.int .u64 (i : Int)) W := fun t a b W' => sub_u64 _ _ _ _ _ _ (by rw [hm, hf]; exact u64_diff W.first i (by omega)) W'
  have HSub := Lib.hid hsub
  have HIx := Lib.hid (fun W => texts_index W g o L c' i hlt)
  have c0 : w.cell? ⟨x, 0, none⟩ = some (.int .u64 (f : Int)) := by rw [hb.cell, hf]; rfl
  clear h hb hlim hn hm hi hlt hc hr hL hsub h1 h2 hf
  go_enter Tryz.func98, Tryz.ntmps98
  go_wp2_with fail
  refine H2.out.mono ?_
  rintro e w2 ⟨rfl, k, rfl⟩
  have HBk := Lib.hid (below_dn (Below.refl w.heap.size w) k)
  obtain ⟨wk, hwk⟩ : ∃ wk, wk = w.drewN k := ⟨_, rfl⟩
  have HB2 : Hid (Blk wk x 35 (refC W (.slice (some ⟨g, o, none⟩) L c'))) := by rw [hwk]; exact HB.out
  have HC2 : Hid (wk.cell? ⟨g, o + i, none⟩ = some u) := by rw [hwk]; exact HCell.out
  have HR2 : Hid (Row wk 0 u t) := by rw [hwk]; exact HRow.out
  have HSz : Hid (wk.heap.size = w.heap.size) := by rw [hwk]; rfl
  rw [← hwk] at HBk ⊢
  clear hwk HB HCell HRow H2 c0
  go_upto_region 3 with fail
  clear i1 i2 i3 i4
  refine region_by [(18, .is (.pointer (some ⟨x, 0, none⟩))), (19, .is (.pointer (some ⟨x, 0, none⟩))), (20, .is (.pointer (some ⟨x, 1, none⟩))), (21, .is (.slice (some ⟨g, o, none⟩) L c')), (22, .is (.int .u64 (m : Int))), (23, .is (.pointer (some ⟨x, 0, none⟩))), (24, .is (.pointer (some ⟨x, 0, none⟩))), (25, .is (.pointer (some ⟨x, 0, none⟩))), (26, .is (.int .u64 (f : Int))), (27, .is (.int .u64 (i : Int))), (28, .is (.pointer (some ⟨g, o + i, none⟩))), (29, .is u), (4, .is u), (5, .is (.int .i64 0))] [4, 5] (fun W => Below wk.heap.size wk W) (by kernel_rfl) (by kernel_rfl) (by kernel_rfl) (by kernel_rfl) (by kernel_rfl) ((Below.refl _ _).drew) ?_ ?_
  · refine ⟨?c0, ?c1, ?c2, ?c3, ?c4, ?c5, ?c6, ?c7, ?c8, ?c9, ?c10, ?c11, ?c12, ?c13, trivial⟩
    case c0 => exact ask_copy (guard_none rfl) (.tmp 0) (.inl rfl) (by intro k hk; cases hk; rfl)
    case c1 => exact ask_exec (guard_none rfl) (.pointer (some ⟨x, 0, none⟩)) rfl rfl (by intro k hk; cases hk; rfl) (fun W' hW => by kernel_rfl)
    case c2 => exact ask_field (guard_none rfl) _ (.tmp 19) 1 (.pointer (some ⟨x, 0, none⟩)) (.pointer (some ⟨x, 1, none⟩)) rfl rfl (by intro k hk; cases hk; rfl) (fun W => by kernel_rfl)
    case c3 => exact ask_load (guard_none rfl) _ (.tmp 20) (.pointer (some ⟨x, 1, none⟩)) (.slice (some ⟨g, o, none⟩) L c') rfl rfl (by intro k hk; cases hk; rfl) (fun W' hW => load_ls W' _ _ (by rw [hW.cell (p := ⟨x, 1, none⟩) HB2.out.lt, HB2.out.cell]; rfl))
    case c4 => exact ask_copy (guard_none rfl) (.tmp 1) (.inl rfl) (by intro k hk; cases hk; rfl)
    case c5 => exact ask_copy (guard_none rfl) (.tmp 0) (.inl rfl) (by intro k hk; cases hk; rfl)
    case c6 => exact ask_exec (guard_none rfl) (.pointer (some ⟨x, 0, none⟩)) rfl rfl (by intro k hk; cases hk; rfl) (fun W' hW => by kernel_rfl)
    case c7 => exact ask_field (guard_none rfl) _ (.tmp 24) 0 (.pointer (some ⟨x, 0, none⟩)) (.pointer (some ⟨x, 0, none⟩)) rfl rfl (by intro k hk; cases hk; rfl) (fun W => by kernel_rfl)
    case c8 => exact ask_load (guard_none rfl) _ (.tmp 25) (.pointer (some ⟨x, 0, none⟩)) (.int .u64 (f : Int)) rfl rfl (by intro k hk; cases hk; rfl) (fun W' hW => load_u64 W' _ _ (by rw [hW.cell (p := ⟨x, 0, none⟩) HB2.out.lt, HB2.out.cell, HF.out]; rfl))
    case c9 => exact ask_bin (guard_none rfl) .sub _ _ (.tmp 22) (.tmp 26) (.int .u64 (m : Int)) (.int .u64 (f : Int)) (.int .u64 (i : Int)) rfl rfl rfl (by intro k hk; cases hk; rfl) (fun W => HSub.out _ _ _ W)
    case c10 => exact ask_index (guard_none rfl) _ (.tmp 21) (.tmp 27) (.slice (some ⟨g, o, none⟩) L c') (.int .u64 (i : Int)) (.pointer (some ⟨g, o + i, none⟩)) rfl rfl rfl (by intro k hk; cases hk; rfl) HIx.out
    case c11 => exact ask_load (guard_none rfl) _ (.tmp 28) (.pointer (some ⟨g, o + i, none⟩)) u rfl rfl (by intro k hk; cases hk; rfl) (fun W' hW => load_bs W' _ _ (by rw [hW.cell (p := ⟨g, o + i, none⟩) (World.block_lt_of_cell? wk _ HC2.out)]; exact HC2.out))
    case c12 => exact ask_copy (guard_none rfl) (.tmp 29) (.inr rfl) (by intro k hk; cases hk; rfl)
    case c13 => exact ask_copy (guard_none rfl) (.const (.int .i64 0)) (.inr rfl) (by intro k hk; cases hk; rfl)
  · intro af W1 hW hd' hs' hf'
    have t4 : af.tmps.getD 4 undef = u := hf' 4 rfl
    have t5 : af.tmps.getD 5 undef = .int .i64 0 := hf' 5 rfl
    obtain ⟨us, hus, haf⟩ := act_open 30 af hs' hd'
    rw [← hus] at t4 t5
    have el : ((List.range 30).map us).toArray = #[us 0, us 1, us 2, us 3, us 4, us 5, us 6, us 7, us 8, us 9, us 10, us 11, us 12, us 13, us 14, us 15, us 16, us 17, us 18, us 19, us 20, us 21, us 22, us 23, us 24, us 25, us 26, us 27, us 28, us 29] := rfl
    rw [el] at haf
    subst haf
    rw [t4, t5]
    have HW := Lib.hid hW
    clear hus t4 t5 el hf' hs' hd' hW
    go_wp2
    go_ret2
    exact ⟨_, rfl, (HR2.out.below HW.out).bys, HBk.out.trans (HW.out.mono (Nat.le_of_eq HSz.out.symm))⟩

/-- A record more. -/
theorem rl_added {w W : World} {X : Nat → Prop} {x : Nat} {V : WS} {v vc u : Value} {us : List Value} {r : List UInt8} (h : RL w X x V) (hlim : V.first + V.recs.length ≤ 98) (hrl : r.length ≤ 16384) (hb : Blk w x 35 (refC V v)) (hlo : ListO w v us) (hlen : us.length = V.recs.length)
    (hrow : ∀ (i : Nat) (u : Value) (t : List UInt8), us[i]? = some u → V.recs[i]? = some t → Row w 0 u t) (hx : X x) (hv : ∀ k, v.ownBlock = some k → X k) (hu : ∀ u ∈ us, ∀ k, u.ownBlock = some k → X k) (hc : ∀ k, vc.ownBlock = some k → v.ownBlock = some k) (hW : OnlyS (fun k => vc.ownBlock = some k) w W) (ha : Added w.heap.size vc us r u W) :
    RL (W.setCell ⟨x, 1, none⟩ u) (more w X (W.setCell ⟨x, 1, none⟩ u)) x { V with recs := V.recs ++ [r] } ∧ OnlyS X w (W.setCell ⟨x, 1, none⟩ u) := by
  obtain ⟨y, a1, a2, a3⟩ := ha
  have hok := h.ok
  have hX := h.lt
  have hsz := hW.size
  have hbW : Blk W x 35 (refC V v) := by
    unfold Blk
    rw [hW.block x (hX x hx) fun e => ?_]
    · exact hb
    · have e2 := hc x e
      rcases hlo with ⟨rfl, _⟩ | ⟨g, o, cap, cur, rfl, hg, _⟩
      · simp [Value.ownBlock] at e2
      · simp [Value.ownBlock] at e2
        subst e2
        unfold Blk at hb
        rw [hg] at hb
        simp at hb
  have hoS : OnlyS (fun k => k = x) W (W.setCell ⟨x, 1, none⟩ u) := (OnlyS.refl (fun k => k = x) W).setCell (p := ⟨x, 1, none⟩) (fun _ => rfl) u
  have hoX : OnlyS X w (W.setCell ⟨x, 1, none⟩ u) := (hW.mono fun k _ hk => hv k (hc k hk)).then hoS fun k _ hk => by subst hk; exact hx
  have hsz2 : (W.setCell ⟨x, 1, none⟩ u).heap.size = W.heap.size := by simp [World.setCell]
  refine ⟨RL.set (W := V) (us2 := us ++ [y]) (fun k hk => ?_) hbW a1 (by simp [hlen]) (fun i z t hz ht => ?_) (.inl hx) (fun k hk => ?_) (fun z hz k hk => ?_) ⟨by simp; omega, hok.sure, hok.least, hok.may, fun t ht => ?_⟩ hoS (Blk.set hbW 1 u), hoX⟩
  · rcases hk with hk | hk
    · have := hX k hk; omega
    · omega
  · by_cases hil : i < us.length
    · rw [List.getElem?_append_left hil] at hz
      simp only at ht
      rw [List.getElem?_append_left (by omega)] at ht
      refine ownRow_same (hrow i z t hz ht) fun k hk => hW.block k (hX k (hu z (List.mem_of_getElem? hz) k hk)) fun e => ?_
      have e2 := hc k e
      rcases hlo with ⟨rfl, _⟩ | ⟨g, o, cap, cur, rfl, hg, _⟩
      · simp [Value.ownBlock] at e2
      · simp [Value.ownBlock] at e2
        obtain ⟨cur2, hc2⟩ := ownRow_block (hrow i z t hz ht) hk
        rw [← e2, hg] at hc2
        simp at hc2
    · have hi2 : i = us.length := by
        have := (List.getElem?_eq_some_iff.1 hz).1
        simp at this
        omega
      subst hi2
      simp only at ht
      rw [hlen] at ht
      simp at hz ht
      subst hz
      subst ht
      exact row_lower a2 (Nat.zero_le _)
  · rcases a3 k hk with hk2 | hk2
    · exact .inl (hv k (hc k hk2))
    · exact .inr ⟨hk2, by rw [hsz2]; exact a1.lt hk⟩
  · rcases List.mem_append.1 hz with hz | hz
    · exact .inl (hu z hz k hk)
    · have e := List.mem_singleton.1 hz
      subst e
      have := World.ownsRow.lt a2 k hk
      exact .inr ⟨this.1, by rw [hsz2]; exact this.2⟩
  · rcases List.mem_append.1 ht with ht | ht
    · exact hok.long t ht
    · rw [List.mem_singleton.1 ht]; exact hrl

set_option maxHeartbeats 2000000 in
theorem rAppended_any {w : World} {X : Nat → Prop} {x : Nat} {V : WS} (h : RL w X x V) (hlim : V.first + V.recs.length ≤ 98) {ra : Option Addr} {rl rc : Nat} {r : List UInt8} (hr : Bys w (.slice ra rl rc) r) (hrl : r.length = rl) (hr2 : rl ≤ 16384) (hra : r ≠ [] → ∀ k, (Value.slice ra rl rc).ownBlock = some k → ¬ X k) :
    Calls Tryz.prog 46 #[.pointer (some ⟨x, 0, none⟩), .slice ra rl rc] w fun e w' => e = .returned (.tuple #[]) ∧ RL w' (more w X w') x { V with recs := V.recs ++ [r] } ∧ OnlyS X w w' := by
  obtain ⟨v, ls, h1, h2, h3, h4, h5, h6, h7⟩ := h.ex
  obtain ⟨va, vc, rfl, hvc⟩ := h2.form
  obtain ⟨n, hn⟩ : ∃ n, n = ls.length := ⟨_, rfl⟩
  have hn1000 : ls.length ≤ 1000 := by omega
  obtain ⟨sa, s1, s2, s3⟩ := h2.sub 0 ls.length ls.length (Nat.zero_le _) (Nat.le_refl _) (Nat.le_refl _) hvc
  simp only [Nat.sub_zero, List.take_length, List.drop_zero] at s1 s2 s3
  have hslice : ∀ W, (Instr.sliceAt 33 (.slice va ls.length vc) none (some (.int .i64 (ls.length : Int))) (some (.int .i64 (ls.length : Int)))).run Tryz.prog W = .ok (.slice sa ls.length ls.length) W := fun W => by
    rw [slice_txs_hm va ls.length vc .i64 hvc W, s1]
  have hX := h.lt
  have hsx : ∀ k, (Value.slice sa ls.length ls.length).ownBlock = some k → k ≠ x := fun k hk e => by
    subst e
    have hk2 := s3 k hk
    rcases h2 with ⟨e2, _⟩ | ⟨g, o, cap, cur, e2, hg, _⟩
    · rw [e2] at hk2; simp [Value.ownBlock] at hk2
    · rw [e2] at hk2
      simp [Value.ownBlock] at hk2
      subst hk2
      unfold Blk at h1
      rw [hg] at h1
      simp at h1
  have hfin : ∀ (W : World) (u : Value), OnlyS (fun k => (Value.slice sa ls.length ls.length).ownBlock = some k) w W → Added w.heap.size (.slice sa ls.length ls.length) ls r u W → RL (W.setCell ⟨x, 1, none⟩ u) (more w X (W.setCell ⟨x, 1, none⟩ u)) x { V with recs := V.recs ++ [r] } ∧ OnlyS X w (W.setCell ⟨x, 1, none⟩ u) := fun W u hW ha =>
    rl_added h hlim (by omega) h1 h2 h3 h4 h5 h6 h7 s3 hW ha
  have kx : ∀ W, OnlyS (fun k => (Value.slice sa ls.length ls.length).ownBlock = some k) w W → Blk W x 35 (refC V (.slice va ls.length vc)) := fun W hW => by
    unfold Blk
    rw [hW.block x (hX x h5) fun e => hsx x e rfl]
    exact h1
  have kB : ∀ W, OnlyS (fun k => (Value.slice sa ls.length ls.length).ownBlock = some k) w W → Bys W (.slice ra rl rc) r := fun W hW => by
    by_cases h0 : r = []
    · subst h0
      rcases hr with ⟨e, -⟩ | ⟨ad, cap, e, -⟩
      · exact .inl ⟨e, rfl⟩
      · exact .inr ⟨ad, cap, e, fun i hi => absurd hi (Nat.not_lt_zero i)⟩
    · exact bys_only hr fun k hk hlt => hW.block k hlt fun e => hra h0 k hk (h6 k (s3 k e))
  have HFin := Lib.hid hfin
  have KX := Lib.hid kx
  have KB := Lib.hid kB
  have HSl := Lib.hid hslice
  have HLo := Lib.hid s2
  have HSlt := Lib.hid (fun k hk => h2.lt (s3 k hk))
  have HRl : Hid (r.length ≤ 140737488355328) := by show r.length ≤ 140737488355328; omega
  have HN1000 := Lib.hid hn1000
  clear h h1 h2 h3 h4 h5 h6 h7 hvc hn s1 s2 s3 hslice hX hsx hfin kx kB hr hrl hr2 hra hlim hn1000
  go_enter Tryz.func46, Tryz.ntmps46
  go_upto_region 0 with fail
  have hG2 : ∀ W W' : World, OnlyS (fun k => (Value.slice sa ls.length ls.length).ownBlock = some k) w W ∧ ListO W (.slice sa ls.length ls.length) ls → Below W.heap.size W W' → OnlyS (fun k => (Value.slice sa ls.length ls.length).ownBlock = some k) w W' ∧ ListO W' (.slice sa ls.length ls.length) ls := fun W W' h h' => ⟨h.1.trans (OnlyS.of_below h' fun k hk _ => hk), h.2.same fun k hk => h'.block k (h.2.lt hk)⟩
  refine region_tail_by 23 _ [(4, .is (.pointer (some ⟨x, 0, none⟩))), (5, .is (.pointer (some ⟨x, 0, none⟩))), (6, .is (.pointer (some ⟨x, 0, none⟩))), (7, .is (.pointer (some ⟨x, 1, none⟩))), (8, .is (.slice va ls.length vc)), (9, .is (.pointer (some ⟨x, 0, none⟩))), (10, .is (.pointer (some ⟨x, 0, none⟩))), (11, .is (.pointer (some ⟨x, 1, none⟩))), (12, .is (.slice va ls.length vc)), (13, .is (.int .i64 (ls.length : Int))), (14, .is (.pointer (some ⟨x, 0, none⟩))), (15, .is (.pointer (some ⟨x, 0, none⟩))), (16, .is (.pointer (some ⟨x, 1, none⟩))), (17, .is (.slice va ls.length vc)), (18, .is (.int .i64 (ls.length : Int))), (19, .is (.slice sa ls.length ls.length)), (20, .lit w.heap.size), (21, .is (.slice ra rl rc)), (22, .row w.heap.size r), (23, (.sat (One1 w.heap.size r) (fun u W W' h hb => h.stays hb))), (24, (.sat (Added w.heap.size (.slice sa ls.length ls.length) ls r) (fun u W W' h hb => h.stays hb))), (25, .is (.pointer (some ⟨x, 0, none⟩))), (26, .is (.pointer (some ⟨x, 1, none⟩)))] [24, 26] (fun W => OnlyS (fun k => (Value.slice sa ls.length ls.length).ownBlock = some k) w W ∧ ListO W (.slice sa ls.length ls.length) ls) (by kernel_rfl) (by kernel_rfl) (by kernel_rfl) (by kernel_rfl) (by kernel_rfl) rfl rfl rfl rfl (by kernel_rfl) (hG2 _ _ ⟨OnlyS.refl _ _, HLo.out⟩ (Below.refl _ _).drew) ?_ ?_
  · refine ⟨?c0, ?c1, ?c2, ?c3, ?c4, ?c5, ?c6, ?c7, ?c8, ?c9, ?c10, ?c11, ?c12, ?c13, ?c14, ?c15, ?c16, ?c17, ?c18, ?c19, ?c20, ?c21, ?c22, trivial⟩
    case c0 => exact ask_copy (guard_none rfl) (.tmp 0) (.inl rfl) (by intro k hk; cases hk; rfl)
    case c1 => exact ask_copy (guard_none rfl) (.tmp 0) (.inl rfl) (by intro k hk; cases hk; rfl)
    case c2 => exact ask_exec (guard_none rfl) (.pointer (some ⟨x, 0, none⟩)) rfl rfl (by intro k hk; cases hk; rfl) (fun W hW => by kernel_rfl)
    case c3 => exact ask_field (guard_none rfl) _ (.tmp 6) 1 (.pointer (some ⟨x, 0, none⟩)) (.pointer (some ⟨x, 1, none⟩)) rfl rfl (by intro k hk; cases hk; rfl) (fun W => by kernel_rfl)
    case c4 => exact ask_load (guard_none rfl) _ (.tmp 7) (.pointer (some ⟨x, 1, none⟩)) (.slice va ls.length vc) rfl rfl (by intro k hk; cases hk; rfl) (fun W hW => load_ls W _ _ (by rw [(KX.out W hW.1).cell]; rfl))
    case c5 => exact ask_copy (guard_none rfl) (.tmp 0) (.inl rfl) (by intro k hk; cases hk; rfl)
    case c6 => exact ask_exec (guard_none rfl) (.pointer (some ⟨x, 0, none⟩)) rfl rfl (by intro k hk; cases hk; rfl) (fun W hW => by kernel_rfl)
    case c7 => exact ask_field (guard_none rfl) _ (.tmp 10) 1 (.pointer (some ⟨x, 0, none⟩)) (.pointer (some ⟨x, 1, none⟩)) rfl rfl (by intro k hk; cases hk; rfl) (fun W => by kernel_rfl)
    case c8 => exact ask_load (guard_none rfl) _ (.tmp 11) (.pointer (some ⟨x, 1, none⟩)) (.slice va ls.length vc) rfl rfl (by intro k hk; cases hk; rfl) (fun W hW => load_ls W _ _ (by rw [(KX.out W hW.1).cell]; rfl))
    case c9 => exact ask_len (guard_none rfl) (.tmp 12) _ va ls.length vc rfl ut_txs rfl (by intro k hk; cases hk; rfl)
    case c10 => exact ask_copy (guard_none rfl) (.tmp 0) (.inl rfl) (by intro k hk; cases hk; rfl)
    case c11 => exact ask_exec (guard_none rfl) (.pointer (some ⟨x, 0, none⟩)) rfl rfl (by intro k hk; cases hk; rfl) (fun W hW => by kernel_rfl)
    case c12 => exact ask_field (guard_none rfl) _ (.tmp 15) 1 (.pointer (some ⟨x, 0, none⟩)) (.pointer (some ⟨x, 1, none⟩)) rfl rfl (by intro k hk; cases hk; rfl) (fun W => by kernel_rfl)
    case c13 => exact ask_load (guard_none rfl) _ (.tmp 16) (.pointer (some ⟨x, 1, none⟩)) (.slice va ls.length vc) rfl rfl (by intro k hk; cases hk; rfl) (fun W hW => load_ls W _ _ (by rw [(KX.out W hW.1).cell]; rfl))
    case c14 => exact ask_len (guard_none rfl) (.tmp 17) _ va ls.length vc rfl ut_txs rfl (by intro k hk; cases hk; rfl)
    case c15 => exact ask_slice (guard_none rfl) _ (.tmp 8) none (some (.tmp 13)) (some (.tmp 18)) (.slice va ls.length vc) (.slice sa ls.length ls.length) none (some (.int .i64 (ls.length : Int))) (some (.int .i64 (ls.length : Int))) rfl rfl rfl rfl rfl (by intro k hk; cases hk; rfl) HSl.out
    case c16 => exact ask_build_lit hG2 (guard_none rfl) w.heap.size (fun W hW => hW.1.size) rfl (by intro k hk; cases hk; rfl)
    case c17 => exact ask_copy (guard_none rfl) (.tmp 1) (.inl rfl) (by intro k hk; cases hk; rfl)
    case c18 => exact ask_append_lit hG2 (guard_none rfl) (.tmp 20) (.tmp 21) w.heap.size r rfl rfl rfl (fun y W hW hk => by have e : y 21 = .slice ra rl rc := hk 21 rfl; show Bys W (y 21) r; rw [e]; exact KB.out W hW.1) HRl.out (by intro k hk; cases hk; exact .inl rfl)
    case c19 => exact ask_grow hG2 (guard_none rfl) (fun y W hW hk => by
      have h22 : Row W w.heap.size (y 22) r := hk 22 rfl
      obtain ⟨ya, yc, ey⟩ := slice_of_row h22
      refine gives_value (v := .slice (some ⟨W.heap.size, 0, none⟩) 1 1) (w' := W.alloc (.cells #[y 22] 27)) ?_ ⟨(Below.refl _ _).alloc (Nat.le_refl _) _, fun k hk => by cases hk; exact ⟨_, y 22, rfl, hW.1.size, Blk.new _ _ _, h22.below ((Below.refl _ _).alloc (Nat.le_refl _) _)⟩⟩
      rw [ey]
      simp [execOp, evalBy, ey, build_text, Result.andThen])
    case c20 => exact ask_write (guard_none rfl) (by kernel_rfl) (fun y W hW hk => by
      have e19 : y 19 = .slice sa ls.length ls.length := hk 19 rfl
      obtain ⟨g17, z, e17, hg17, hb17, hr17⟩ : One1 w.heap.size r (y 23) W := hk 23 rfl
      obtain ⟨ya, yc, ey⟩ := slice_of_row hr17
      obtain ⟨v', w', hrun, k1, k2, k3, k4⟩ := hW.2.add (u := z) (by rw [ey]; simp [Value.oneCell']) g17 hb17 HN1000.out
      have hyo : Row w' w.heap.size z r := ownRow_same hr17 fun k hk2 => by
        have h1 := World.ownsRow.lt hr17 k hk2
        refine k2.block k h1.2 fun h2 => ?_
        have := HSlt.out k h2
        omega
      refine gives_value (v := v') (w' := w') ?_ ⟨⟨hW.1.trans k2, k4⟩, fun k hk => by
        cases hk
        exact ⟨z, k1, hyo, fun k hk => by
          rcases k3 k hk with h | h
          · exact .inl h
          · have := hW.1.size; exact .inr (by omega)⟩⟩
      simp [execOp, evalBy, resolve, invoke, builtin, e19, e17, hrun, Result.andThen])
    case c21 => exact ask_exec (guard_none rfl) (.pointer (some ⟨x, 0, none⟩)) rfl rfl (by intro k hk; cases hk; rfl) (fun W hW => by kernel_rfl)
    case c22 => exact ask_field (guard_none rfl) _ (.tmp 25) 1 (.pointer (some ⟨x, 0, none⟩)) (.pointer (some ⟨x, 1, none⟩)) rfl rfl (by intro k hk; cases hk; rfl) (fun W => by kernel_rfl)
  · intro a' W hW hd' hs' hf'
    have f24 : Added w.heap.size (.slice sa ls.length ls.length) ls r (a'.tmps.getD 24 undef) W := hf' 24 rfl
    have t26 : a'.tmps.getD 26 undef = .pointer (some ⟨x, 1, none⟩) := hf' 26 rfl
    obtain ⟨us, hus, ha'⟩ := act_open 27 a' hs' hd'
    rw [← hus] at f24 t26
    have el : ((List.range 27).map us).toArray = #[us 0, us 1, us 2, us 3, us 4, us 5, us 6, us 7, us 8, us 9, us 10, us 11, us 12, us 13, us 14, us 15, us 16, us 17, us 18, us 19, us 20, us 21, us 22, us 23, us 24, us 25, us 26] := rfl
    rw [el] at ha'
    subst ha'
    rw [t26]
    have F24 := Lib.hid f24
    have HW := Lib.hid hW
    clear hus f24 t26 el hf' hs' hd' hW
    obtain ⟨ua, uc, eu⟩ : ∃ ua uc, us 24 = .slice ua (ls.length + 1) uc := by
      obtain ⟨y, h1, _⟩ := F24.out
      obtain ⟨ua, uc, h2, _⟩ := h1.form
      exact ⟨ua, uc, by rw [h2]; simp⟩
    have hadd := F24.out
    rw [eu] at hadd ⊢
    have hfr : W.frozen? ⟨x, 1, none⟩ = false := (KX.out W HW.out.1).frozen 1
    have hce : W.cell? ⟨x, 1, none⟩ = some (.slice va ls.length vc) := by rw [(KX.out W HW.out.1).cell]; rfl
    have hrl := HFin.out W _ HW.out.1 hadd
    have HRL := Lib.hid hrl
    clear hadd hrl F24
    go_wp2
    go_end0
    exact ⟨rfl, HRL.out⟩
end Go.Proofs.YthaggdkfaglgaaaGreatDoor

/- The reference's log in memory: Fits, Take. -/
namespace Go.Proofs.YthaggdkfaglgaaaGreatDoor
set_option maxRecDepth 20000
open Go.RowKit Go.Maps DiskMath WalMath FrameMath Reg

/-- The least that a log may have. -/
def floorW (V : WS) : Nat := if V.over = true ∧ V.least < V.sure then V.least else V.sure

set_option maxHeartbeats 1000000 in
theorem rFits_true {w : World} {X : Nat → Prop} {x : Nat} {V : WS} (h : RL w X x V) (a b : Nat) (ha : a = V.first ∨ a = V.may) (hb : V.first + floorW V ≤ b) (hab : a ≤ b) (hbe : b ≤ V.first + V.recs.length) :
    Calls Tryz.prog 50 #[.pointer (some ⟨x, 0, none⟩), .int .u64 (a : Int), .int .u64 (b : Int)] w fun e w' => e = .returned (.bool true) ∧ Below w.heap.size w w' := by
  have H2 := Lib.hid (rNext_any h)
  have hlim := h.ok.lim
  have hs99 := h.ok.sure
  have hl99 := h.ok.least
  obtain ⟨v, us, h1, -⟩ := h.ex
  obtain ⟨f, hf⟩ : ∃ f, f = V.first := ⟨_, rfl⟩
  obtain ⟨y, hy⟩ : ∃ y, y = V.may := ⟨_, rfl⟩
  obtain ⟨sr, hsr⟩ : ∃ sr, sr = V.sure := ⟨_, rfl⟩
  obtain ⟨ls, hls⟩ : ∃ ls, ls = V.least := ⟨_, rfl⟩
  obtain ⟨ov, hov⟩ : ∃ ov, ov = V.over := ⟨_, rfl⟩
  obtain ⟨n, hn⟩ : ∃ n, n = V.first + V.recs.length := ⟨_, rfl⟩
  unfold floorW at hb
  rw [← hn] at H2 hbe
  rw [← hf, ← hsr, ← hls, ← hov] at hb
  rw [← hf, ← hy] at ha
  rw [← hsr] at hs99
  rw [← hls] at hl99
  have c0 : w.cell? ⟨x, 0, none⟩ = some (.int .u64 (f : Int)) := by rw [h1.cell, hf]; rfl
  have c2 : w.cell? ⟨x, 2, none⟩ = some (.int .i64 (sr : Int)) := by rw [h1.cell, hsr]; rfl
  have c3 : w.cell? ⟨x, 3, none⟩ = some (.bool ov) := by rw [h1.cell, hov]; rfl
  have c4 : w.cell? ⟨x, 4, none⟩ = some (.int .i64 (ls : Int)) := by rw [h1.cell, hls]; rfl
  have c5 : w.cell? ⟨x, 5, none⟩ = some (.int .u64 (y : Int)) := by rw [h1.cell, hy]; rfl
  have hf99 : f ≤ 99 := by omega
  have w1 : IntKind.u64.wrap (sr : Int) = (sr : Int) := u64_small sr (by omega)
  have w2 : IntKind.u64.wrap (ls : Int) = (ls : Int) := u64_small ls (by omega)
  obtain ⟨p, hp⟩ : ∃ p, p = f + sr := ⟨_, rfl⟩
  obtain ⟨q, hq⟩ : ∃ q, q = f + ls := ⟨_, rfl⟩
  have w3 : IntKind.u64.wrap ((f : Int) + (sr : Int)) = (p : Int) := by rw [hp]; exact u64_small (f + sr) (by omega)
  have w4 : IntKind.u64.wrap ((f : Int) + (ls : Int)) = (q : Int) := by rw [hq]; exact u64_small (f + ls) (by omega)
  have n1 : ((b : Int) ≥ (a : Int)) := by omega
  have n2 : decide ((a : Int) ≤ (b : Int)) = true := by simpa using hab
  have n3 : decide ((b : Int) ≤ (n : Int)) = true := by simpa using hbe
  have hfin : decide ((p : Int) ≤ (b : Int)) = true ∨ (ov = true ∧ ls < sr ∧ decide ((q : Int) ≤ (b : Int)) = true) := by
    by_cases hc : ov = true ∧ ls < sr
    · rw [if_pos hc] at hb
      exact .inr ⟨hc.1, hc.2, by simp; omega⟩
    · rw [if_neg hc] at hb
      exact .inl (by simp; omega)
  have hst : ∃ t : Nat, ((ov = true ∧ ls < sr ∧ t = q) ∨ (¬ (ov = true ∧ ls < sr) ∧ t = p)) ∧ decide ((t : Int) ≤ (b : Int)) = true := by
    by_cases hc : ov = true ∧ ls < sr
    · refine ⟨q, .inl ⟨hc.1, hc.2, rfl⟩, ?_⟩
      rcases hfin with h | h
      · simp only [decide_eq_true_eq] at h ⊢; omega
      · exact h.2.2
    · refine ⟨p, .inr ⟨hc, rfl⟩, ?_⟩
      rcases hfin with h | h
      · exact h
      · exact absurd ⟨h.1, h.2.1⟩ hc
  obtain ⟨t, ht, n4⟩ := hst
  have h1W := Lib.hid (Below.refl w.heap.size w)
  have m1 : ((a : Int) == (f : Int)) = decide (a = f) := by rw [Bool.eq_iff_iff]; simp; omega
  have m2 : ((a : Int) == (y : Int)) = decide (a = y) := by rw [Bool.eq_iff_iff]; simp; omega
  have m3 : decide ((ls : Int) < (sr : Int)) = decide (ls < sr) := by rw [Bool.eq_iff_iff]; simp
  clear h h1 hlim hb hab hbe hfin hs99 hl99 hf99 hf hy hsr hls hov hn hp hq n1
  go_enter Tryz.func50, Tryz.ntmps50
  have q1 : t ≤ b := by simpa using n4
  have q2 : a ≤ b := by simpa using n2
  have q3 : b ≤ n := by simpa using n3
  have r1 : (t : Int) ≤ (b : Int) := by omega
  have r2 : (a : Int) ≤ (b : Int) := by omega
  have r3 : (b : Int) ≤ (n : Int) := by omega
  clear m1 m2 m3 n2 n3 n4
  by_cases haf : a = f
  · subst haf
    clear ha
    rcases ht with ⟨rfl, hlt, rfl⟩ | ⟨hno, rfl⟩
    · have k3 : (ls : Int) < (sr : Int) := by omega
      go_wp2_with fail
      refine H2.out.mono ?_
      rintro e w2 ⟨rfl, k, rfl⟩
      go_wp2
      try rw [show decide (b ≤ n) = true by simpa using q3]
      go_ret
      exact ⟨rfl, below_dn h1W.out k⟩
    · cases ov with
      | false =>
        clear hno
        go_wp2_with fail
        refine H2.out.mono ?_
        rintro e w2 ⟨rfl, k, rfl⟩
        go_wp2
        try rw [show decide (b ≤ n) = true by simpa using q3]
        go_ret
        exact ⟨rfl, below_dn h1W.out k⟩
      | true =>
        have hlt : ¬ ls < sr := by simpa using hno
        have k3 : ¬ (ls : Int) < (sr : Int) := by omega
        clear hno
        go_wp2_with fail
        refine H2.out.mono ?_
        rintro e w2 ⟨rfl, k, rfl⟩
        go_wp2
        try rw [show decide (b ≤ n) = true by simpa using q3]
        go_ret
        exact ⟨rfl, below_dn h1W.out k⟩
  · have haf2 : ¬ (a : Int) = (f : Int) := by omega
    obtain rfl : a = y := by
      rcases ha with h | h
      · exact absurd h haf
      · exact h
    clear ha
    rcases ht with ⟨rfl, hlt, rfl⟩ | ⟨hno, rfl⟩
    · have k3 : (ls : Int) < (sr : Int) := by omega
      go_wp2_with fail
      refine H2.out.mono ?_
      rintro e w2 ⟨rfl, k, rfl⟩
      go_wp2
      try rw [show decide (b ≤ n) = true by simpa using q3]
      go_ret
      exact ⟨rfl, below_dn h1W.out k⟩
    · cases ov with
      | false =>
        clear hno
        go_wp2_with fail
        refine H2.out.mono ?_
        rintro e w2 ⟨rfl, k, rfl⟩
        go_wp2
        try rw [show decide (b ≤ n) = true by simpa using q3]
        go_ret
        exact ⟨rfl, below_dn h1W.out k⟩
      | true =>
        have hlt : ¬ ls < sr := by simpa using hno
        have k3 : ¬ (ls : Int) < (sr : Int) := by omega
        clear hno
        go_wp2_with fail
        refine H2.out.mono ?_
        rintro e w2 ⟨rfl, k, rfl⟩
        go_wp2
        try rw [show decide (b ≤ n) = true by simpa using q3]
        go_ret
        exact ⟨rfl, below_dn h1W.out k⟩

/-- The list becomes a part of itself, and the first number is told anew. -/
theorem rl_part {w W w' : World} {X : Nat → Prop} {x : Nat} {V V2 : WS} (h : RL w X x V) (hW : Below w.heap.size w W) {v : Value} {us : List Value} (h1 : Blk w x 35 (refC V v)) (h3 : us.length = V.recs.length)
    (h4 : ∀ (i : Nat) (u : Value) (t : List UInt8), us[i]? = some u → V.recs[i]? = some t → Row w 0 u t) (h5 : X x) (h6 : ∀ k, v.ownBlock = some k → X k) (h7 : ∀ u ∈ us, ∀ k, u.ownBlock = some k → X k) {v2 : Value} {lo hi : Nat} (hhi : hi ≤ V.recs.length)
    (hv2 : ListO w v2 ((us.take hi).drop lo)) (ho2 : ∀ j, v2.ownBlock = some j → v.ownBlock = some j) (hr : V2.recs = (V.recs.take hi).drop lo) (hok : Wok V2) (ho : OnlyS (fun k => k = x) W w') (hb : Blk w' x 35 (refC V2 v2)) : RL w' X x V2 := by
  refine RL.set (w := W) (W := V) (us2 := (us.take hi).drop lo) (fun k hk => Nat.lt_of_lt_of_le (h.lt k hk) hW.size) (h1.keep hW) (hv2.same fun k hk => hW.block k (hv2.lt hk)) (by rw [hr]; simp [h3]) (fun i u t hu ht => ?_) h5 (fun k hk => h6 k (ho2 k hk)) (fun u hu k hk => h7 u (List.mem_of_mem_take (List.mem_of_mem_drop hu)) k hk) hok ho hb
  rw [hr] at ht
  rw [List.getElem?_drop] at hu ht
  by_cases hlt : lo + i < hi
  · rw [List.getElem?_take_of_lt hlt] at hu ht
    exact (h4 _ u t hu ht).below hW
  · rw [List.getElem?_eq_none (by rw [List.length_take]; omega)] at hu
    cases hu

/-- The state that is taken on. -/
def tookW (V : WS) (lo hi : Nat) : WS := { first := V.first + lo, recs := (V.recs.take hi).drop lo, sure := hi - lo, over := false, least := hi - lo, may := V.first + lo }

set_option maxHeartbeats 2000000 in
theorem rTake_any {w : World} {X : Nat → Prop} {x : Nat} {V : WS} (h : RL w X x V) (lo hi : Nat) (hlh : lo ≤ hi) (hhi : hi ≤ V.recs.length) :
    Calls Tryz.prog 51 #[.pointer (some ⟨x, 0, none⟩), .int .u64 ((V.first + lo : Nat) : Int), .int .u64 ((V.first + hi : Nat) : Int)] w fun e w' => e = .returned (.tuple #[]) ∧ RL w' X x (tookW V lo hi) ∧ OnlyS (fun k => k = x) w w' := by
  obtain ⟨v, ls, h1, h2, h3, h4, h5, h6, h7⟩ := h.ex
  obtain ⟨va, vc, rfl, hvc⟩ := h2.form
  have hlim := h.ok.lim
  obtain ⟨sa, s1, s2, s3⟩ := h2.sub lo hi vc hlh (by omega) (by omega) (Nat.le_refl _)
  have hslice : ∀ W, (Instr.sliceAt 33 (.slice va ls.length vc) (some (.int .u64 (lo : Int))) (some (.int .u64 (hi : Int))) none).run Tryz.prog W = .ok (.slice sa (hi - lo) (vc - lo)) W := fun W => by
    rw [slice_txs_lh va ls.length vc lo hi .u64 hlh (by omega) W, s1]
  obtain ⟨f, hf⟩ : ∃ f, f = V.first := ⟨_, rfl⟩
  obtain ⟨a, ha⟩ : ∃ a, a = V.first + lo := ⟨_, rfl⟩
  obtain ⟨b, hb⟩ : ∃ b, b = V.first + hi := ⟨_, rfl⟩
  have hsub1 : ∀ (t : TypeId) (y z : Operand) (W : World), (do eqGuard .sub t y z (.int .u64 (a : Int)) (.int .u64 (f : Int)); binOp .sub t (.int .u64 (a : Int)) (.int .u64 (f : Int)) : Sem Value).run Tryz.prog W = .ok (.int .u64 (lo : Int)) W := fun t y z W' => sub_u64 _ _ _ _ _ _ (by rw [ha, hf]; exact u64_diff V.first lo (by omega)) W'
  have hsub2 : ∀ (t : TypeId) (y z : Operand) (W : World), (do eqGuard .sub t y z (.int .u64 (b : Int)) (.int .u64 (f : Int)); binOp .sub t (.int .u64 (b : Int)) (.int .u64 (f : Int)) : Sem Value).run Tryz.prog W = .ok (.int .u64 (hi : Int)) W := fun t y z W' => sub_u64 _ _ _ _ _ _ (by rw [hb, hf]; exact u64_diff V.first hi (by omega)) W'
  have hfin : ∀ W : World, Below w.heap.size w W → RL (((W.setCell ⟨x, 1, none⟩ (.slice sa (hi - lo) (vc - lo))).setCell ⟨x, 0, none⟩ (.int .u64 (a : Int))).setCell ⟨x, 3, none⟩ (.bool false)) X x { first := a, recs := (V.recs.take hi).drop lo, sure := V.sure, over := false, least := V.least, may := V.may } ∧
      OnlyS (fun k => k = x) w (((W.setCell ⟨x, 1, none⟩ (.slice sa (hi - lo) (vc - lo))).setCell ⟨x, 0, none⟩ (.int .u64 (a : Int))).setCell ⟨x, 3, none⟩ (.bool false)) := fun W hW => by
    have ho : OnlyS (fun k => k = x) W (((W.setCell ⟨x, 1, none⟩ (.slice sa (hi - lo) (vc - lo))).setCell ⟨x, 0, none⟩ (.int .u64 (a : Int))).setCell ⟨x, 3, none⟩ (.bool false)) :=
      (((OnlyS.refl (fun k => k = x) W).setCell (p := ⟨x, 1, none⟩) (fun _ => rfl) _).setCell (p := ⟨x, 0, none⟩) (fun _ => rfl) _).setCell (p := ⟨x, 3, none⟩) (fun _ => rfl) _
    refine ⟨rl_part h hW h1 h3 h4 h5 h6 h7 hhi s2 s3 rfl ⟨by simp; omega, h.ok.sure, h.ok.least, h.ok.may, fun t ht => h.ok.long t (List.mem_of_mem_take (List.mem_of_mem_drop ht))⟩ ho ?_, (OnlyS.of_below (S := fun k => k = x) hW fun k hk _ => hk).trans ho⟩
    exact Blk.set (Blk.set (Blk.set (h1.keep hW) 1 _) 0 (.int .u64 (a : Int))) 3 (.bool false)
  have HFin := Lib.hid hfin
  have HB := Lib.hid h1
  have HF := Lib.hid hf
  have HSl := Lib.hid hslice
  have HS1 := Lib.hid hsub1
  have HS2 := Lib.hid hsub2
  have HA := Lib.hid ha
  have HLen : Hid ((((V.recs.take hi).drop lo).length) = hi - lo) := by
    show (((V.recs.take hi).drop lo).length) = hi - lo
    rw [List.length_drop, List.length_take]; omega
  rw [← ha, ← hb]
  clear h h1 h2 h3 h4 h5 h6 h7 hvc hlim s1 s2 s3 hslice hf ha hb hsub1 hsub2 hfin hlh hhi
  go_enter Tryz.func51, Tryz.ntmps51
  go_upto_region 0 with fail
  refine region_tail_by 20 _ [(6, .is (.pointer (some ⟨x, 0, none⟩))), (7, .is (.pointer (some ⟨x, 0, none⟩))), (8, .is (.pointer (some ⟨x, 0, none⟩))), (9, .is (.pointer (some ⟨x, 1, none⟩))), (10, .is (.slice va ls.length vc)), (11, .is (.int .u64 (a : Int))), (12, .is (.pointer (some ⟨x, 0, none⟩))), (13, .is (.pointer (some ⟨x, 0, none⟩))), (14, .is (.pointer (some ⟨x, 0, none⟩))), (15, .is (.int .u64 (f : Int))), (16, .is (.int .u64 (lo : Int))), (17, .is (.int .u64 (b : Int))), (18, .is (.pointer (some ⟨x, 0, none⟩))), (19, .is (.pointer (some ⟨x, 0, none⟩))), (20, .is (.pointer (some ⟨x, 0, none⟩))), (21, .is (.int .u64 (f : Int))), (22, .is (.int .u64 (hi : Int))), (23, .is (.slice sa (hi - lo) (vc - lo))), (24, .is (.pointer (some ⟨x, 0, none⟩))), (25, .is (.pointer (some ⟨x, 1, none⟩)))] [0, 1, 23, 25] (fun W => Below w.heap.size w W) (by kernel_rfl) (by kernel_rfl) (by kernel_rfl) (by kernel_rfl) (by kernel_rfl) rfl rfl rfl rfl (by kernel_rfl) ((Below.refl _ _).drew) ?_ ?_
  · refine ⟨?c0, ?c1, ?c2, ?c3, ?c4, ?c5, ?c6, ?c7, ?c8, ?c9, ?c10, ?c11, ?c12, ?c13, ?c14, ?c15, ?c16, ?c17, ?c18, ?c19, trivial⟩
    case c0 => exact ask_copy (guard_none rfl) (.tmp 0) (.inl rfl) (by intro k hk; cases hk; rfl)
    case c1 => exact ask_copy (guard_none rfl) (.tmp 0) (.inl rfl) (by intro k hk; cases hk; rfl)
    case c2 => exact ask_exec (guard_none rfl) (.pointer (some ⟨x, 0, none⟩)) rfl rfl (by intro k hk; cases hk; rfl) (fun W hW => by kernel_rfl)
    case c3 => exact ask_field (guard_none rfl) _ (.tmp 8) 1 (.pointer (some ⟨x, 0, none⟩)) (.pointer (some ⟨x, 1, none⟩)) rfl rfl (by intro k hk; cases hk; rfl) (fun W => by kernel_rfl)
    case c4 => exact ask_load (guard_none rfl) _ (.tmp 9) (.pointer (some ⟨x, 1, none⟩)) (.slice va ls.length vc) rfl rfl (by intro k hk; cases hk; rfl) (fun W hW => load_ls W _ _ (by rw [hW.cell (p := ⟨x, 1, none⟩) HB.out.lt, HB.out.cell]; rfl))
    case c5 => exact ask_copy (guard_none rfl) (.tmp 1) (.inl rfl) (by intro k hk; cases hk; rfl)
    case c6 => exact ask_copy (guard_none rfl) (.tmp 0) (.inl rfl) (by intro k hk; cases hk; rfl)
    case c7 => exact ask_exec (guard_none rfl) (.pointer (some ⟨x, 0, none⟩)) rfl rfl (by intro k hk; cases hk; rfl) (fun W hW => by kernel_rfl)
    case c8 => exact ask_field (guard_none rfl) _ (.tmp 13) 0 (.pointer (some ⟨x, 0, none⟩)) (.pointer (some ⟨x, 0, none⟩)) rfl rfl (by intro k hk; cases hk; rfl) (fun W => by kernel_rfl)
    case c9 => exact ask_load (guard_none rfl) _ (.tmp 14) (.pointer (some ⟨x, 0, none⟩)) (.int .u64 (f : Int)) rfl rfl (by intro k hk; cases hk; rfl) (fun W hW => load_u64 W _ _ (by rw [hW.cell (p := ⟨x, 0, none⟩) HB.out.lt, HB.out.cell, HF.out]; rfl))
    case c10 => exact ask_bin (guard_none rfl) .sub _ _ (.tmp 11) (.tmp 15) (.int .u64 (a : Int)) (.int .u64 (f : Int)) (.int .u64 (lo : Int)) rfl rfl rfl (by intro k hk; cases hk; rfl) (fun W => HS1.out _ _ _ W)
    case c11 => exact ask_copy (guard_none rfl) (.tmp 2) (.inl rfl) (by intro k hk; cases hk; rfl)
    case c12 => exact ask_copy (guard_none rfl) (.tmp 0) (.inl rfl) (by intro k hk; cases hk; rfl)
    case c13 => exact ask_exec (guard_none rfl) (.pointer (some ⟨x, 0, none⟩)) rfl rfl (by intro k hk; cases hk; rfl) (fun W hW => by kernel_rfl)
    case c14 => exact ask_field (guard_none rfl) _ (.tmp 19) 0 (.pointer (some ⟨x, 0, none⟩)) (.pointer (some ⟨x, 0, none⟩)) rfl rfl (by intro k hk; cases hk; rfl) (fun W => by kernel_rfl)
    case c15 => exact ask_load (guard_none rfl) _ (.tmp 20) (.pointer (some ⟨x, 0, none⟩)) (.int .u64 (f : Int)) rfl rfl (by intro k hk; cases hk; rfl) (fun W hW => load_u64 W _ _ (by rw [hW.cell (p := ⟨x, 0, none⟩) HB.out.lt, HB.out.cell, HF.out]; rfl))
    case c16 => exact ask_bin (guard_none rfl) .sub _ _ (.tmp 17) (.tmp 21) (.int .u64 (b : Int)) (.int .u64 (f : Int)) (.int .u64 (hi : Int)) rfl rfl rfl (by intro k hk; cases hk; rfl) (fun W => HS2.out _ _ _ W)
    case c17 => exact ask_slice (guard_none rfl) _ (.tmp 10) (some (.tmp 16)) (some (.tmp 22)) none (.slice va ls.length vc) (.slice sa (hi - lo) (vc - lo)) (some (.int .u64 (lo : Int))) (some (.int .u64 (hi : Int))) none rfl rfl rfl rfl rfl (by intro k hk; cases hk; rfl) HSl.out
    case c18 => exact ask_exec (guard_none rfl) (.pointer (some ⟨x, 0, none⟩)) rfl rfl (by intro k hk; cases hk; rfl) (fun W hW => by kernel_rfl)
    case c19 => exact ask_field (guard_none rfl) _ (.tmp 24) 1 (.pointer (some ⟨x, 0, none⟩)) (.pointer (some ⟨x, 1, none⟩)) rfl rfl (by intro k hk; cases hk; rfl) (fun W => by kernel_rfl)
  · intro a' W hW hd' hs' hf'
    have t0 : a'.tmps.getD 0 undef = .pointer (some ⟨x, 0, none⟩) := hf' 0 rfl
    have t1 : a'.tmps.getD 1 undef = .int .u64 (a : Int) := hf' 1 rfl
    have t23 : a'.tmps.getD 23 undef = .slice sa (hi - lo) (vc - lo) := hf' 23 rfl
    have t25 : a'.tmps.getD 25 undef = .pointer (some ⟨x, 1, none⟩) := hf' 25 rfl
    obtain ⟨us, hus, ha'⟩ := act_open 35 a' hs' hd'
    rw [← hus] at t0 t1 t23 t25
    have el : ((List.range 35).map us).toArray = #[us 0, us 1, us 2, us 3, us 4, us 5, us 6, us 7, us 8, us 9, us 10, us 11, us 12, us 13, us 14, us 15, us 16, us 17, us 18, us 19, us 20, us 21, us 22, us 23, us 24, us 25, us 26, us 27, us 28, us 29, us 30, us 31, us 32, us 33, us 34] := rfl
    rw [el] at ha'
    subst ha'
    rw [t0, t1, t23, t25]
    have HW := Lib.hid hW
    clear hus t0 t1 t23 t25 el hf' hs' hd' hW
    have hb := HB.out.keep HW.out
    have c1 : W.cell? ⟨x, 1, none⟩ = some (.slice va ls.length vc) := by rw [hb.cell]; rfl
    have f1 : W.frozen? ⟨x, 1, none⟩ = false := hb.frozen 1
    have c0 : W.cell? ⟨x, 0, none⟩ = some (.int .u64 (f : Int)) := by rw [hb.cell, HF.out]; rfl
    have f0 : W.frozen? ⟨x, 0, none⟩ = false := hb.frozen 0
    have c3 : W.cell? ⟨x, 3, none⟩ = some (.bool V.over) := by rw [hb.cell]; rfl
    have f3 : W.frozen? ⟨x, 3, none⟩ = false := hb.frozen 3
    have hrl := HFin.out W HW.out
    have HRL := Lib.hid hrl.1
    have HON := Lib.hid hrl.2
    clear hb hrl HW
    go_wp2_with fail
    refine (rTook_any HRL.out).mono ?_
    rintro e w3 ⟨rfl, h1, h2⟩
    have HR3 := Lib.hid h1
    have HO3 := Lib.hid (HON.out.trans h2)
    clear h1 h2 c1 f1 c0 f0 c3 f3
    go_wp2
    go_end0
    refine ⟨rfl, ?_, HO3.out⟩
    have h := HR3.out
    simp only [HLen.out] at h
    unfold tookW
    rw [← HA.out]
    exact h
end Go.Proofs.YthaggdkfaglgaaaGreatDoor

/- A run: a disk, a log, what it must be; is the log just that? -/
namespace Go.Proofs.YthaggdkfaglgaaaGreatDoor
set_option maxRecDepth 20000
open Go.RowKit Go.Maps DiskMath WalMath FrameMath Reg

abbrev runC (d l x : Nat) : Array Value := #[dp d, .pointer (some ⟨l, 0, none⟩), .pointer (some ⟨x, 0, none⟩)]

theorem eq_u64 (s t : Operand) (a : Nat) (W : World) : (do eqGuard .neq 32 s t (.int .u64 (a : Int)) (.int .u64 (a : Int)); binOp .neq 32 (.int .u64 (a : Int)) (.int .u64 (a : Int)) : Sem Value).run Tryz.prog W = .ok (.bool false) W := by
  simp [eqGuard, go_sem]

theorem load_wl (W : World) (p : Addr) (v : Value) (h : W.cell? p = some v) : (Instr.loadAt 37 (.pointer (some p))).run Tryz.prog W = .ok v W := by
  exact load_lp W p v h

theorem load_rl (W : World) (p : Addr) (v : Value) (h : W.cell? p = some v) : (Instr.loadAt 38 (.pointer (some p))).run Tryz.prog W = .ok v W := by
  have hagg : (isAgg 38).run Tryz.prog W = .ok false W := by kernel_rfl
  simp [Instr.loadAt, Instr.sureAddr, loadVar, Sem.run_bind, hagg, h]

set_option maxHeartbeats 4000000 in
theorem same_any {w : World} {S X : Nat → Prop} {B d l x c : Nat} {q : Nm} {s : St} {over : Bool} {V : WS} (hb : Blk w B 40 (runC d l x)) (hp : Pr w S d l c q s V.first V.recs over) (hr : RL w X x V) :
    Calls Tryz.prog 45 #[.pointer (some ⟨B, 0, none⟩)] w fun e w' => e = .returned (.bool true) ∧ Below w.heap.size w w' := by
  have HB := Lib.hid hb
  have HP := Lib.hid hp
  have HR := Lib.hid hr
  obtain ⟨a, c', hl, -, hlim⟩ := hp.log
  have HL := Lib.hid hl
  have HLim := Lib.hid hlim
  have HLong := Lib.hid hr.ok.long
  obtain ⟨f, hf⟩ : ∃ f, f = V.first := ⟨_, rfl⟩
  obtain ⟨n, hn⟩ : ∃ n, n = V.first + V.recs.length := ⟨_, rfl⟩
  have HF := Lib.hid hf
  have HN := Lib.hid hn
  have hx0 : ∃ v, Blk w x 35 (refC V v) := by
    obtain ⟨v, us, h1, _⟩ := hr.ex
    exact ⟨v, h1⟩
  obtain ⟨v0, hx0⟩ := hx0
  have HX0 := Lib.hid hx0
  have HFirst := Lib.hid (fun (W : World) (hW : Below w.heap.size w W) => show Calls Tryz.prog 29 #[.pointer (some ⟨l, 0, none⟩)] W (fun e w' => ∃ v, e = .returned v ∧ v = .int .u64 (f : Int) ∧ Below W.heap.size W w') from (wfirst_any (hl.keep hW)).mono fun e w' h => by obtain ⟨h1, rfl⟩ := h; exact ⟨_, h1, by rw [hf], Below.refl _ _⟩)
  have HNext := Lib.hid (fun (W : World) (hW : Below w.heap.size w W) => show Calls Tryz.prog 30 #[.pointer (some ⟨l, 0, none⟩)] W (fun e w' => ∃ v, e = .returned v ∧ v = .int .u64 (n : Int) ∧ Below W.heap.size W w') from (wnext_any (hl.keep hW) (by omega)).mono fun e w' h => by obtain ⟨h1, m, rfl⟩ := h; exact ⟨_, h1, by rw [hn], below_dn (Below.refl _ _) m⟩)
  have HRNext := Lib.hid (fun (W : World) (hW : Below w.heap.size w W) => show Calls Tryz.prog 24 #[.pointer (some ⟨x, 0, none⟩)] W (fun e w' => ∃ v, e = .returned v ∧ v = .int .u64 (n : Int) ∧ Below W.heap.size W w') from (rNext_any (hr.below hW)).mono fun e w' h => by obtain ⟨h1, m, rfl⟩ := h; exact ⟨_, h1, by rw [hn], below_dn (Below.refl _ _) m⟩)
  have hfn : f ≤ n := by omega
  have hn99 : n ≤ 99 := by omega
  clear hb hp hr hl hlim hf hn hx0
  have hG : ∀ W W' : World, Below w.heap.size w W → Below W.heap.size W W' → Below w.heap.size w W' := fun W W' h h' => h.trans (h'.mono h.size)
  go_enter Tryz.func45, Tryz.ntmps45
  go_upto_region 1 with fail
  refine region_by [(11, .is (.pointer (some ⟨B, 0, none⟩))), (12, .is (.pointer (some ⟨B, 0, none⟩))), (13, .is (.pointer (some ⟨B, 1, none⟩))), (14, .is (.pointer (some ⟨l, 0, none⟩))), (15, .is (.int .u64 (f : Int))), (16, .is (.pointer (some ⟨B, 0, none⟩))), (17, .is (.pointer (some ⟨B, 0, none⟩))), (18, .is (.pointer (some ⟨B, 2, none⟩))), (19, .is (.pointer (some ⟨x, 0, none⟩))), (20, .is (.pointer (some ⟨x, 0, none⟩))), (21, .is (.pointer (some ⟨x, 0, none⟩))), (22, .is (.int .u64 (f : Int))), (23, .is (.bool false)), (24, .is (.bool false)), (25, .is (.pointer (some ⟨B, 0, none⟩))), (26, .is (.pointer (some ⟨B, 0, none⟩))), (27, .is (.pointer (some ⟨B, 1, none⟩))), (28, .is (.pointer (some ⟨l, 0, none⟩))), (29, .is (.int .u64 (n : Int))), (30, .is (.pointer (some ⟨B, 0, none⟩))), (31, .is (.pointer (some ⟨B, 0, none⟩))), (32, .is (.pointer (some ⟨B, 2, none⟩))), (33, .is (.pointer (some ⟨x, 0, none⟩))), (34, .is (.int .u64 (n : Int))), (35, .is (.bool false)), (36, .is (.bool false))] [0, 36] (fun W => Below w.heap.size w W) (by kernel_rfl) (by kernel_rfl) (by kernel_rfl) (by kernel_rfl) (by kernel_rfl) ((Below.refl _ _).drew) ?_ ?_
  · refine ⟨?c0, ?c1, ?c2, ?c3, ?c4, ?c5, ?c6, ?c7, ?c8, ?c9, ?c10, ?c11, ?c12, ?c13, ?c14, ?c15, ?c16, ?c17, ?c18, ?c19, ?c20, ?c21, ?c22, ?c23, ?c24, ?c25, trivial⟩
    case c0 => exact ask_copy (guard_none rfl) (.tmp 0) (.inl rfl) (by intro k hk; cases hk; rfl)
    case c1 => exact ask_exec (guard_none rfl) (.pointer (some ⟨B, 0, none⟩)) rfl rfl (by intro k hk; cases hk; rfl) (fun W hW => by kernel_rfl)
    case c2 => exact ask_field (guard_none rfl) _ (.tmp 12) 1 (.pointer (some ⟨B, 0, none⟩)) (.pointer (some ⟨B, 1, none⟩)) rfl rfl (by intro k hk; cases hk; rfl) (fun W => by kernel_rfl)
    case c3 => exact ask_load (guard_none rfl) _ (.tmp 13) (.pointer (some ⟨B, 1, none⟩)) (.pointer (some ⟨l, 0, none⟩)) rfl rfl (by intro k hk; cases hk; rfl) (fun W hW => load_wl W _ _ (by rw [hW.cell (p := ⟨B, 1, none⟩) HB.out.lt, HB.out.cell]; rfl))
    case c4 => exact ask_call hG (guard_none rfl) _ _ _ #[.pointer (some ⟨l, 0, none⟩)] (.is (.int .u64 (f : Int))) rfl (by kernel_rfl) rfl rfl (by intro k hk; cases hk; rfl) (fun W hW => ((HFirst.out) W hW).mono fun e w' h => by obtain ⟨v, h1, h2, h3⟩ := h; exact ⟨v, h1, h2, h3⟩)
    case c5 => exact ask_copy (guard_none rfl) (.tmp 0) (.inl rfl) (by intro k hk; cases hk; rfl)
    case c6 => exact ask_exec (guard_none rfl) (.pointer (some ⟨B, 0, none⟩)) rfl rfl (by intro k hk; cases hk; rfl) (fun W hW => by kernel_rfl)
    case c7 => exact ask_field (guard_none rfl) _ (.tmp 17) 2 (.pointer (some ⟨B, 0, none⟩)) (.pointer (some ⟨B, 2, none⟩)) rfl rfl (by intro k hk; cases hk; rfl) (fun W => by kernel_rfl)
    case c8 => exact ask_load (guard_none rfl) _ (.tmp 18) (.pointer (some ⟨B, 2, none⟩)) (.pointer (some ⟨x, 0, none⟩)) rfl rfl (by intro k hk; cases hk; rfl) (fun W hW => load_rl W _ _ (by rw [hW.cell (p := ⟨B, 2, none⟩) HB.out.lt, HB.out.cell]; rfl))
    case c9 => exact ask_exec (guard_none rfl) (.pointer (some ⟨x, 0, none⟩)) rfl rfl (by intro k hk; cases hk; rfl) (fun W hW => by kernel_rfl)
    case c10 => exact ask_field (guard_none rfl) _ (.tmp 20) 0 (.pointer (some ⟨x, 0, none⟩)) (.pointer (some ⟨x, 0, none⟩)) rfl rfl (by intro k hk; cases hk; rfl) (fun W => by kernel_rfl)
    case c11 => exact ask_load (guard_none rfl) _ (.tmp 21) (.pointer (some ⟨x, 0, none⟩)) (.int .u64 (f : Int)) rfl rfl (by intro k hk; cases hk; rfl) (fun W hW => load_u64 W _ _ (by rw [hW.cell (p := ⟨x, 0, none⟩) HX0.out.lt, HX0.out.cell, HF.out]; rfl))
    case c12 => exact ask_bin (guard_none rfl) _ _ _ _ _ _ _ _ rfl rfl rfl (by intro k hk; cases hk; rfl) (eq_u64 _ _ f)
    case c13 => exact ask_copy (guard_none rfl) (.tmp 23) (.inl rfl) (by intro k hk; cases hk; rfl)
    case c14 => exact ask_copy (guard_some rfl rfl rfl) (.tmp 0) (.inl rfl) (by intro k hk; cases hk; rfl)
    case c15 => exact ask_exec (guard_some rfl rfl rfl) (.pointer (some ⟨B, 0, none⟩)) rfl rfl (by intro k hk; cases hk; rfl) (fun W hW => by kernel_rfl)
    case c16 => exact ask_field (guard_some rfl rfl rfl) _ (.tmp 26) 1 (.pointer (some ⟨B, 0, none⟩)) (.pointer (some ⟨B, 1, none⟩)) rfl rfl (by intro k hk; cases hk; rfl) (fun W => by kernel_rfl)
    case c17 => exact ask_load (guard_some rfl rfl rfl) _ (.tmp 27) (.pointer (some ⟨B, 1, none⟩)) (.pointer (some ⟨l, 0, none⟩)) rfl rfl (by intro k hk; cases hk; rfl) (fun W hW => load_wl W _ _ (by rw [hW.cell (p := ⟨B, 1, none⟩) HB.out.lt, HB.out.cell]; rfl))
    case c18 => exact ask_call hG (guard_some rfl rfl rfl) _ _ _ #[.pointer (some ⟨l, 0, none⟩)] (.is (.int .u64 (n : Int))) rfl (by kernel_rfl) rfl rfl (by intro k hk; cases hk; rfl) (fun W hW => ((HNext.out) W hW).mono fun e w' h => by obtain ⟨v, h1, h2, h3⟩ := h; exact ⟨v, h1, h2, h3⟩)
    case c19 => exact ask_copy (guard_some rfl rfl rfl) (.tmp 0) (.inl rfl) (by intro k hk; cases hk; rfl)
    case c20 => exact ask_exec (guard_some rfl rfl rfl) (.pointer (some ⟨B, 0, none⟩)) rfl rfl (by intro k hk; cases hk; rfl) (fun W hW => by kernel_rfl)
    case c21 => exact ask_field (guard_some rfl rfl rfl) _ (.tmp 31) 2 (.pointer (some ⟨B, 0, none⟩)) (.pointer (some ⟨B, 2, none⟩)) rfl rfl (by intro k hk; cases hk; rfl) (fun W => by kernel_rfl)
    case c22 => exact ask_load (guard_some rfl rfl rfl) _ (.tmp 32) (.pointer (some ⟨B, 2, none⟩)) (.pointer (some ⟨x, 0, none⟩)) rfl rfl (by intro k hk; cases hk; rfl) (fun W hW => load_rl W _ _ (by rw [hW.cell (p := ⟨B, 2, none⟩) HB.out.lt, HB.out.cell]; rfl))
    case c23 => exact ask_call hG (guard_some rfl rfl rfl) _ _ _ #[.pointer (some ⟨x, 0, none⟩)] (.is (.int .u64 (n : Int))) rfl (by kernel_rfl) rfl rfl (by intro k hk; cases hk; rfl) (fun W hW => ((HRNext.out) W hW).mono fun e w' h => by obtain ⟨v, h1, h2, h3⟩ := h; exact ⟨v, h1, h2, h3⟩)
    case c24 => exact ask_bin (guard_some rfl rfl rfl) _ _ _ _ _ _ _ _ rfl rfl rfl (by intro k hk; cases hk; rfl) (eq_u64 _ _ n)
    case c25 => exact ask_pick (guard_none rfl) (.tmp 24) (.const (.bool true)) (.tmp 35) false rfl rfl (by intro k hk; cases hk; rfl)
  · intro af W1 hW hd' hs' hf'
    have t0 : af.tmps.getD 0 undef = .pointer (some ⟨B, 0, none⟩) := hf' 0 rfl
    have t36 : af.tmps.getD 36 undef = .bool false := hf' 36 rfl
    obtain ⟨us, hus, haf⟩ := act_open 134 af hs' hd'
    rw [← hus] at t0 t36
    have el : ((List.range 134).map us).toArray = #[us 0, us 1, us 2, us 3, us 4, us 5, us 6, us 7, us 8, us 9, us 10, us 11, us 12, us 13, us 14, us 15, us 16, us 17, us 18, us 19, us 20, us 21, us 22, us 23, us 24, us 25, us 26, us 27, us 28, us 29, us 30, us 31, us 32, us 33, us 34, us 35, us 36, us 37, us 38, us 39, us 40, us 41, us 42, us 43, us 44, us 45, us 46, us 47, us 48, us 49, us 50, us 51, us 52, us 53, us 54, us 55, us 56, us 57, us 58, us 59, us 60, us 61, us 62, us 63, us 64, us 65, us 66, us 67, us 68, us 69, us 70, us 71, us 72, us 73, us 74, us 75, us 76, us 77, us 78, us 79, us 80, us 81, us 82, us 83, us 84, us 85, us 86, us 87, us 88, us 89, us 90, us 91, us 92, us 93, us 94, us 95, us 96, us 97, us 98, us 99, us 100, us 101, us 102, us 103, us 104, us 105, us 106, us 107, us 108, us 109, us 110, us 111, us 112, us 113, us 114, us 115, us 116, us 117, us 118, us 119, us 120, us 121, us 122, us 123, us 124, us 125, us 126, us 127, us 128, us 129, us 130, us 131, us 132, us 133] := rfl
    rw [el] at haf
    subst haf
    rw [t0, t36]
    have HW1 := Lib.hid hW
    clear hus t0 t36 el hf' hs' hd' hW
    have hbk := HB.out.keep HW1.out
    have hxk := HX0.out.keep HW1.out
    have cB2 : W1.cell? ⟨B, 2, none⟩ = some (.pointer (some ⟨x, 0, none⟩)) := by rw [hbk.cell]; rfl
    have cx0 : W1.cell? ⟨x, 0, none⟩ = some (.int .u64 (f : Int)) := by rw [hxk.cell, HF.out]; rfl
    clear hbk hxk
    have HGet := Lib.hid (fun (i : Nat) (t : List UInt8) (hi : V.recs[i]? = some t) (W : World) (hW : Below w.heap.size w W) => show Calls Tryz.prog 26 #[.pointer (some ⟨l, 0, none⟩), .int .u64 ((f + i : Nat) : Int)] W (fun e w' => ∃ v, e = .returned (.tuple #[v, .int .i64 0]) ∧ Row w' W.heap.size v t ∧ Below W.heap.size W w') from by
      rw [HF.out]
      exact wGet_some (HP.out.below hW) i t hi (HLong.out t (List.mem_of_getElem? hi)))
    have HRGet := Lib.hid (fun (i : Nat) (t : List UInt8) (hi : V.recs[i]? = some t) (W : World) (hW : Below w.heap.size w W) => show Calls Tryz.prog 98 #[.pointer (some ⟨x, 0, none⟩), .int .u64 ((f + i : Nat) : Int)] W (fun e w' => ∃ v, e = .returned (.tuple #[v, .int .i64 0]) ∧ Bys w' v t ∧ Below W.heap.size W w') from by
      rw [HF.out]
      exact rGet_some (HR.out.below hW) i t hi)
    have HNone := Lib.hid (fun (m : Nat) (hm : m < f ∨ n ≤ m) (W : World) (hW : Below w.heap.size w W) => show Calls Tryz.prog 26 #[.pointer (some ⟨l, 0, none⟩), .int .u64 (m : Int)] W (fun e w' => ∃ v, e = .returned v ∧ v = .tuple #[.slice none 0 0, .int .i64 9] ∧ Below W.heap.size W w') from (wGet_none (HP.out.below hW) m (by have := HF.out; have := HN.out; omega)).mono fun e w' h => ⟨_, h.1, rfl, h.2⟩)
    have HCell := Lib.hid (fun (W : World) (hW : Below w.heap.size w W) => show W.cell? ⟨B, 1, none⟩ = some (.pointer (some ⟨l, 0, none⟩)) ∧ W.cell? ⟨B, 2, none⟩ = some (.pointer (some ⟨x, 0, none⟩)) ∧ W.cell? ⟨x, 0, none⟩ = some (.int .u64 (f : Int)) from by
      have h1 := HB.out.keep hW
      have h2 := HX0.out.keep hW
      exact ⟨by rw [h1.cell]; rfl, by rw [h1.cell]; rfl, by rw [h2.cell, HF.out]; rfl⟩)
    have hlen : n = f + V.recs.length := by rw [HN.out, HF.out]
    have HLen := Lib.hid hlen
    clear hlen
    go_wp2_with fail
    clear cB2 cx0
    go_loopw [3] (fun s3 wr => ∃ i : Nat, i ≤ V.recs.length ∧ s3 = .int .u64 ((f + i : Nat) : Int) ∧ Hid (Below w.heap.size w wr)) (fun s3 _ => n - (intOf s3).toNat)
    case atStart => exact ⟨0, Nat.zero_le _, rfl, HW1⟩
    case round =>
      obtain ⟨i, hi, rfl, HBr⟩ := hrel
      obtain ⟨b1, b2, b3⟩ := HCell.out wr HBr.out
      clear HW1
      by_cases hlt : i < V.recs.length
      · obtain ⟨t, ht⟩ : ∃ t, V.recs[i]? = some t := ⟨_, List.getElem?_eq_getElem hlt⟩
        have hmn : f + i < n := by have := HLen.out; omega
        have HG1 := Lib.hid (HGet.out i t ht)
        have HT16 := Lib.hid (HLong.out t (List.mem_of_getElem? ht))
        have HG2 := Lib.hid (HRGet.out i t ht)
        have hw1 : IntKind.u64.wrap (((f + i : Nat) : Int) + 1) = ((f + (i + 1) : Nat) : Int) := u64_small (f + i + 1) (by omega)
        obtain ⟨m, hm⟩ : ∃ m, m = f + i := ⟨_, rfl⟩
        rw [← hm] at HG1 HG2 hmn hw1 ⊢
        have HM := Lib.hid hm
        have hmn2 : (m : Int) < (n : Int) := by omega
        have HI := Lib.hid hlt
        clear ht hm hlt hi
        go_wp2_with fail
        refine (HRNext.out wr HBr.out).mono ?_
        rintro e w2 ⟨v, rfl, rfl, hb2⟩
        have HB2 := Lib.hid (hG _ _ HBr.out hb2)
        clear hb2 b1 b2 b3
        obtain ⟨b1, b2, b3⟩ := HCell.out w2 HB2.out
        go_wp2_with fail
        refine (HG1.out w2 HB2.out).mono ?_
        rintro e w3 ⟨v, rfl, hr3, hb3⟩
        obtain ⟨va, vc, rfl⟩ := slice_of_row hr3
        have HR3 := Lib.hid hr3
        have HB3 := Lib.hid (hG _ _ HB2.out hb3)
        clear hb3 hr3 b1 b2 b3
        obtain ⟨b1, b2, b3⟩ := HCell.out w3 HB3.out
        go_wp2_with fail
        refine (HG2.out w3 HB3.out).mono ?_
        rintro e w4 ⟨v, rfl, hr4, hb4⟩
        have HB4 := Lib.hid (hG _ _ HB3.out hb4)
        have HR4 := Lib.hid (HR3.out.below hb4)
        have hcv2 := conv_bys hr4
        have hcv1 := conv_bys HR4.out.bys
        obtain ⟨Y, hY⟩ : ∃ Y : ByteArray, Y = ⟨t.toArray⟩ := ⟨_, rfl⟩
        rw [← hY] at hcv1 hcv2
        obtain ⟨k, hk⟩ : ∃ k, k = t.length := ⟨_, rfl⟩
        have HK := Lib.hid hk
        have hk16 : k ≤ 16384 := by rw [hk]; exact HT16.out
        rw [← hk] at hcv1 HR4 ⊢
        have HBs := Lib.hid HB2.out.size
        clear hb4 hr4 b1 b2 b3 HR3 HG1 HG2 hY hk
        go_wp2_with fail
        clear hcv1 hcv2
        go_loopw [8] (fun s8 wr => ∃ (j : Nat) (l : List UInt8), j ≤ k ∧ l.length = k ∧ s8 = .int .i64 j ∧ Hid (Row wr w2.heap.size (.slice va k vc) l) ∧ Hid (Below w.heap.size w wr)) (fun s8 _ => k - (intOf s8).toNat)
        case atStart => exact ⟨0, t, Nat.zero_le _, HK.out.symm, rfl, HR4, HB4⟩
        case round =>
          obtain ⟨j, lj, hj, hll, rfl, HRw, HBw⟩ := hrel
          by_cases hjk : j < k
          · have j0 : (0 : Int) ≤ (j : Int) := Int.natCast_nonneg _
            have j1 : (j : Int) < (k : Int) := by omega
            have hrw := HRw.out
            obtain ⟨gx, hgx⟩ : ∃ gx, va = some ⟨gx, 0, none⟩ := by
              rcases hrw.2 with ⟨hv, h0⟩ | ⟨gx, cap, cur, hv, _⟩
              · omega
              · simp at hv
                exact ⟨gx, hv.1⟩
            subst hgx
            obtain ⟨⟨z, hz⟩, hfz⟩ := row_cell hrw j (by omega)
            have hgB := (hrw.lt (k := gx) rfl).1
            have HGB := Lib.hid hgB
            have HLL := Lib.hid hll
            clear hrw hll hgB
            go_wp2
            go_roundw
            case rel =>
              obtain ⟨b, hb⟩ := u8_wrap (z + 1)
              refine ⟨j + 1, lj.set j b, by omega, by rw [List.length_set]; exact HLL.out, by go_num, Lib.hid ?_, Lib.hid ?_⟩
              · have h := row_set HRw.out j b
                rw [← hb] at h
                first | exact h | (rw [IntKind.wrap_u8] at h; exact h)
              · exact HBw.out.setCell (Nat.le_trans HBs.out HGB.out) _
            case measure => simp [intOf]; omega
          · clear hll
            go_wp2
            go_roundw
            case rel => exact ⟨i + 1, by have := HI.out; omega, rfl, HBw⟩
            case measure => have := HM.out; simp [intOf]; omega
      · obtain rfl : i = V.recs.length := by omega
        have hmn : ¬ n < n := Nat.lt_irrefl n
        have hmn2 : ¬ (n : Int) < (n : Int) := by omega
        rw [← HLen.out]
        clear hlt hi
        go_wp2_with fail
        refine (HRNext.out wr HBr.out).mono ?_
        rintro e w2 ⟨v, rfl, rfl, hb2⟩
        have HB2 := Lib.hid (hG _ _ HBr.out hb2)
        clear hb2 b1 b2 b3 hmn hmn2
        go_upto_region 14 with fail
        have hG2 : ∀ W W' : World, Below w2.heap.size w2 W → Below W.heap.size W W' → Below w2.heap.size w2 W' := fun W W' h h' => h.trans (h'.mono h.size)
        have HBB2 := Lib.hid (HB.out.keep HB2.out)
        have HXX2 := Lib.hid (HX0.out.keep HB2.out)
        refine region_by [(94, .is (.pointer (some ⟨B, 0, none⟩))), (95, .is (.pointer (some ⟨B, 0, none⟩))), (96, .is (.pointer (some ⟨B, 1, none⟩))), (97, .is (.pointer (some ⟨l, 0, none⟩))), (98, .is (.pointer (some ⟨B, 0, none⟩))), (99, .is (.pointer (some ⟨B, 0, none⟩))), (100, .is (.pointer (some ⟨B, 2, none⟩))), (101, .is (.pointer (some ⟨x, 0, none⟩))), (102, .is (.int .u64 (n : Int))), (103, .is (.tuple #[.slice none 0 0, .int .i64 9])), (93, .is (.tuple #[.slice none 0 0, .int .i64 9])), (104, .is (.slice none 0 0)), (105, .is (.int .i64 9)), (9, .is (.slice none 0 0)), (10, .is (.int .i64 9))] [0, 10] (fun W => Below w2.heap.size w2 W) (by kernel_rfl) (by kernel_rfl) (by kernel_rfl) (by kernel_rfl) (by kernel_rfl) ((Below.refl _ _).drew) ?_ ?_
        · refine ⟨?c0, ?c1, ?c2, ?c3, ?c4, ?c5, ?c6, ?c7, ?c8, ?c9, ?c10, ?c11, ?c12, ?c13, ?c14, trivial⟩
          case c0 => exact ask_copy (guard_none rfl) (.tmp 0) (.inl rfl) (by intro k hk; cases hk; rfl)
          case c1 => exact ask_exec (guard_none rfl) (.pointer (some ⟨B, 0, none⟩)) rfl rfl (by intro k hk; cases hk; rfl) (fun W hW => by kernel_rfl)
          case c2 => exact ask_field (guard_none rfl) _ (.tmp 95) 1 (.pointer (some ⟨B, 0, none⟩)) (.pointer (some ⟨B, 1, none⟩)) rfl rfl (by intro k hk; cases hk; rfl) (fun W => by kernel_rfl)
          case c3 => exact ask_load (guard_none rfl) _ (.tmp 96) (.pointer (some ⟨B, 1, none⟩)) (.pointer (some ⟨l, 0, none⟩)) rfl rfl (by intro k hk; cases hk; rfl) (fun W hW => load_wl W _ _ (by rw [hW.cell (p := ⟨B, 1, none⟩) HBB2.out.lt, HBB2.out.cell]; rfl))
          case c4 => exact ask_copy (guard_none rfl) (.tmp 0) (.inl rfl) (by intro k hk; cases hk; rfl)
          case c5 => exact ask_exec (guard_none rfl) (.pointer (some ⟨B, 0, none⟩)) rfl rfl (by intro k hk; cases hk; rfl) (fun W hW => by kernel_rfl)
          case c6 => exact ask_field (guard_none rfl) _ (.tmp 99) 2 (.pointer (some ⟨B, 0, none⟩)) (.pointer (some ⟨B, 2, none⟩)) rfl rfl (by intro k hk; cases hk; rfl) (fun W => by kernel_rfl)
          case c7 => exact ask_load (guard_none rfl) _ (.tmp 100) (.pointer (some ⟨B, 2, none⟩)) (.pointer (some ⟨x, 0, none⟩)) rfl rfl (by intro k hk; cases hk; rfl) (fun W hW => load_rl W _ _ (by rw [hW.cell (p := ⟨B, 2, none⟩) HBB2.out.lt, HBB2.out.cell]; rfl))
          case c8 => exact ask_call hG2 (guard_none rfl) _ _ _ #[.pointer (some ⟨x, 0, none⟩)] (.is (.int .u64 (n : Int))) rfl (by kernel_rfl) rfl rfl (by intro k hk; cases hk; rfl) (fun W hW => (HRNext.out W (hG _ _ HB2.out (hW.mono (Nat.le_refl _)))).mono fun e w' h => by obtain ⟨v, h1, h2, h3⟩ := h; exact ⟨v, h1, h2, h3⟩)
          case c9 => exact ask_call hG2 (guard_none rfl) _ _ _ #[.pointer (some ⟨l, 0, none⟩), .int .u64 (n : Int)] (.is (.tuple #[.slice none 0 0, .int .i64 9])) rfl (by kernel_rfl) rfl rfl (by intro k hk; cases hk; rfl) (fun W hW => (HNone.out n (.inr (Nat.le_refl _)) W (hG _ _ HB2.out hW)).mono fun e w' h => by obtain ⟨v, h1, h2, h3⟩ := h; exact ⟨v, h1, h2, h3⟩)
          case c10 => exact ask_copy (guard_none rfl) (.tmp 103) (.inl rfl) (by intro k hk; cases hk; rfl)
          case c11 => exact ask_sat (guard_none rfl) (.is (.slice none 0 0)) (by intro k hk; cases hk; rfl) (fun y W hW hk => ⟨_, by have e1 : y 93 = (.tuple #[.slice none 0 0, .int .i64 9]) := hk 93 rfl; simp [execOp, evalBy, e1, go_sem], rfl⟩)
          case c12 => exact ask_sat (guard_none rfl) (.is (.int .i64 9)) (by intro k hk; cases hk; rfl) (fun y W hW hk => ⟨_, by have e1 : y 93 = (.tuple #[.slice none 0 0, .int .i64 9]) := hk 93 rfl; simp [execOp, evalBy, e1, go_sem], rfl⟩)
          case c13 => exact ask_copy (guard_none rfl) (.tmp 104) (.inr rfl) (by intro k hk; cases hk; rfl)
          case c14 => exact ask_copy (guard_none rfl) (.tmp 105) (.inr rfl) (by intro k hk; cases hk; rfl)
        · intro af W14 hW hd' hs' hf'
          have t0 : af.tmps.getD 0 undef = .pointer (some ⟨B, 0, none⟩) := hf' 0 rfl
          have t10 : af.tmps.getD 10 undef = .int .i64 9 := hf' 10 rfl
          obtain ⟨us, hus, haf⟩ := act_open 134 af hs' hd'
          rw [← hus] at t0 t10
          have el : ((List.range 134).map us).toArray = #[us 0, us 1, us 2, us 3, us 4, us 5, us 6, us 7, us 8, us 9, us 10, us 11, us 12, us 13, us 14, us 15, us 16, us 17, us 18, us 19, us 20, us 21, us 22, us 23, us 24, us 25, us 26, us 27, us 28, us 29, us 30, us 31, us 32, us 33, us 34, us 35, us 36, us 37, us 38, us 39, us 40, us 41, us 42, us 43, us 44, us 45, us 46, us 47, us 48, us 49, us 50, us 51, us 52, us 53, us 54, us 55, us 56, us 57, us 58, us 59, us 60, us 61, us 62, us 63, us 64, us 65, us 66, us 67, us 68, us 69, us 70, us 71, us 72, us 73, us 74, us 75, us 76, us 77, us 78, us 79, us 80, us 81, us 82, us 83, us 84, us 85, us 86, us 87, us 88, us 89, us 90, us 91, us 92, us 93, us 94, us 95, us 96, us 97, us 98, us 99, us 100, us 101, us 102, us 103, us 104, us 105, us 106, us 107, us 108, us 109, us 110, us 111, us 112, us 113, us 114, us 115, us 116, us 117, us 118, us 119, us 120, us 121, us 122, us 123, us 124, us 125, us 126, us 127, us 128, us 129, us 130, us 131, us 132, us 133] := rfl
          rw [el] at haf
          subst haf
          rw [t0, t10]
          have HB14 := Lib.hid (hG _ _ HB2.out hW)
          clear hus t0 t10 el hf' hs' hd' hW
          obtain ⟨b1, b2, b3⟩ := HCell.out W14 HB14.out
          by_cases hf0 : 0 < f
          · have hf0' : (0 : Int) < (f : Int) := by omega
            clear b1
            go_upto_region 18 with fail
            clear b2 b3 hf0'
            have hG3 : ∀ W W' : World, Below W14.heap.size W14 W → Below W.heap.size W W' → Below W14.heap.size W14 W' := fun W W' h h' => h.trans (h'.mono h.size)
            have HBB3 := Lib.hid (HB.out.keep HB14.out)
            have HXX3 := Lib.hid (HX0.out.keep HB14.out)
            have hsb : IntKind.u64.wrap ((f : Int) - 1) = ((f - 1 : Nat) : Int) := by
              rw [show ((f : Int) - 1) = ((f - 1 : Nat) : Int) by omega]
              exact u64_small _ (by omega)
            have HSb := Lib.hid hsb
            clear hsb
            refine region_by [(117, .is (.pointer (some ⟨B, 0, none⟩))), (118, .is (.pointer (some ⟨B, 0, none⟩))), (119, .is (.pointer (some ⟨B, 1, none⟩))), (120, .is (.pointer (some ⟨l, 0, none⟩))), (121, .is (.pointer (some ⟨B, 0, none⟩))), (122, .is (.pointer (some ⟨B, 0, none⟩))), (123, .is (.pointer (some ⟨B, 2, none⟩))), (124, .is (.pointer (some ⟨x, 0, none⟩))), (125, .is (.pointer (some ⟨x, 0, none⟩))), (126, .is (.pointer (some ⟨x, 0, none⟩))), (127, .is (.int .u64 (f : Int))), (128, .is (.int .u64 ((f - 1 : Nat) : Int))), (129, .is (.tuple #[.slice none 0 0, .int .i64 9])), (116, .is (.tuple #[.slice none 0 0, .int .i64 9])), (130, .is (.slice none 0 0)), (131, .is (.int .i64 9)), (10, .is (.int .i64 9))] [0, 10] (fun W => Below W14.heap.size W14 W) (by kernel_rfl) (by kernel_rfl) (by kernel_rfl) (by kernel_rfl) (by kernel_rfl) ((Below.refl _ _).drew) ?_ ?_
            · refine ⟨?c0, ?c1, ?c2, ?c3, ?c4, ?c5, ?c6, ?c7, ?c8, ?c9, ?c10, ?c11, ?c12, ?c13, ?c14, ?c15, ?c16, trivial⟩
              case c0 => exact ask_copy (guard_none rfl) (.tmp 0) (.inl rfl) (by intro k hk; cases hk; rfl)
              case c1 => exact ask_exec (guard_none rfl) (.pointer (some ⟨B, 0, none⟩)) rfl rfl (by intro k hk; cases hk; rfl) (fun W hW => by kernel_rfl)
              case c2 => exact ask_field (guard_none rfl) _ (.tmp 118) 1 (.pointer (some ⟨B, 0, none⟩)) (.pointer (some ⟨B, 1, none⟩)) rfl rfl (by intro k hk; cases hk; rfl) (fun W => by kernel_rfl)
              case c3 => exact ask_load (guard_none rfl) _ (.tmp 119) (.pointer (some ⟨B, 1, none⟩)) (.pointer (some ⟨l, 0, none⟩)) rfl rfl (by intro k hk; cases hk; rfl) (fun W hW => load_wl W _ _ (by rw [hW.cell (p := ⟨B, 1, none⟩) HBB3.out.lt, HBB3.out.cell]; rfl))
              case c4 => exact ask_copy (guard_none rfl) (.tmp 0) (.inl rfl) (by intro k hk; cases hk; rfl)
              case c5 => exact ask_exec (guard_none rfl) (.pointer (some ⟨B, 0, none⟩)) rfl rfl (by intro k hk; cases hk; rfl) (fun W hW => by kernel_rfl)
              case c6 => exact ask_field (guard_none rfl) _ (.tmp 122) 2 (.pointer (some ⟨B, 0, none⟩)) (.pointer (some ⟨B, 2, none⟩)) rfl rfl (by intro k hk; cases hk; rfl) (fun W => by kernel_rfl)
              case c7 => exact ask_load (guard_none rfl) _ (.tmp 123) (.pointer (some ⟨B, 2, none⟩)) (.pointer (some ⟨x, 0, none⟩)) rfl rfl (by intro k hk; cases hk; rfl) (fun W hW => load_rl W _ _ (by rw [hW.cell (p := ⟨B, 2, none⟩) HBB3.out.lt, HBB3.out.cell]; rfl))
              case c8 => exact ask_exec (guard_none rfl) (.pointer (some ⟨x, 0, none⟩)) rfl rfl (by intro k hk; cases hk; rfl) (fun W hW => by kernel_rfl)
              case c9 => exact ask_field (guard_none rfl) _ (.tmp 125) 0 (.pointer (some ⟨x, 0, none⟩)) (.pointer (some ⟨x, 0, none⟩)) rfl rfl (by intro k hk; cases hk; rfl) (fun W => by kernel_rfl)
              case c10 => exact ask_load (guard_none rfl) _ (.tmp 126) (.pointer (some ⟨x, 0, none⟩)) (.int .u64 (f : Int)) rfl rfl (by intro k hk; cases hk; rfl) (fun W hW => load_u64 W _ _ (by rw [hW.cell (p := ⟨x, 0, none⟩) HXX3.out.lt, HXX3.out.cell, HF.out]; rfl))
              case c11 => exact ask_bin (guard_none rfl) .sub _ _ (.tmp 127) (.const (.int .u64 1)) (.int .u64 (f : Int)) (.int .u64 1) (.int .u64 ((f - 1 : Nat) : Int)) rfl rfl rfl (by intro k hk; cases hk; rfl) (fun W => sub_u64 _ _ _ _ _ _ HSb.out W)
              case c12 => exact ask_call hG3 (guard_none rfl) _ _ _ #[.pointer (some ⟨l, 0, none⟩), .int .u64 ((f - 1 : Nat) : Int)] (.is (.tuple #[.slice none 0 0, .int .i64 9])) rfl (by kernel_rfl) rfl rfl (by intro k hk; cases hk; rfl) (fun W hW => (HNone.out (f - 1) (.inl (by omega)) W (hG _ _ HB14.out hW)).mono fun e w' h => by obtain ⟨v, h1, h2, h3⟩ := h; exact ⟨v, h1, h2, h3⟩)
              case c13 => exact ask_copy (guard_none rfl) (.tmp 129) (.inl rfl) (by intro k hk; cases hk; rfl)
              case c14 => exact ask_sat (guard_none rfl) (.is (.slice none 0 0)) (by intro k hk; cases hk; rfl) (fun y W hW hk => ⟨_, by have e1 : y 116 = (.tuple #[.slice none 0 0, .int .i64 9]) := hk 116 rfl; simp [execOp, evalBy, e1, go_sem], rfl⟩)
              case c15 => exact ask_sat (guard_none rfl) (.is (.int .i64 9)) (by intro k hk; cases hk; rfl) (fun y W hW hk => ⟨_, by have e1 : y 116 = (.tuple #[.slice none 0 0, .int .i64 9]) := hk 116 rfl; simp [execOp, evalBy, e1, go_sem], rfl⟩)
              case c16 => exact ask_copy (guard_none rfl) (.tmp 131) (.inr rfl) (by intro k hk; cases hk; rfl)
            · intro af W18 hW hd' hs' hf'
              have t0 : af.tmps.getD 0 undef = .pointer (some ⟨B, 0, none⟩) := hf' 0 rfl
              have t10 : af.tmps.getD 10 undef = .int .i64 9 := hf' 10 rfl
              obtain ⟨us, hus, haf⟩ := act_open 134 af hs' hd'
              rw [← hus] at t0 t10
              have el : ((List.range 134).map us).toArray = #[us 0, us 1, us 2, us 3, us 4, us 5, us 6, us 7, us 8, us 9, us 10, us 11, us 12, us 13, us 14, us 15, us 16, us 17, us 18, us 19, us 20, us 21, us 22, us 23, us 24, us 25, us 26, us 27, us 28, us 29, us 30, us 31, us 32, us 33, us 34, us 35, us 36, us 37, us 38, us 39, us 40, us 41, us 42, us 43, us 44, us 45, us 46, us 47, us 48, us 49, us 50, us 51, us 52, us 53, us 54, us 55, us 56, us 57, us 58, us 59, us 60, us 61, us 62, us 63, us 64, us 65, us 66, us 67, us 68, us 69, us 70, us 71, us 72, us 73, us 74, us 75, us 76, us 77, us 78, us 79, us 80, us 81, us 82, us 83, us 84, us 85, us 86, us 87, us 88, us 89, us 90, us 91, us 92, us 93, us 94, us 95, us 96, us 97, us 98, us 99, us 100, us 101, us 102, us 103, us 104, us 105, us 106, us 107, us 108, us 109, us 110, us 111, us 112, us 113, us 114, us 115, us 116, us 117, us 118, us 119, us 120, us 121, us 122, us 123, us 124, us 125, us 126, us 127, us 128, us 129, us 130, us 131, us 132, us 133] := rfl
              rw [el] at haf
              subst haf
              rw [t0, t10]
              have HB18 := Lib.hid (hG _ _ HB14.out hW)
              clear hus t0 t10 el hf' hs' hd' hW
              go_wp2
              go_ret
              exact ⟨rfl, HB18.out⟩
          · have hf0' : ¬ (0 : Int) < (f : Int) := by omega
            clear b1
            go_wp2
            go_ret
            exact ⟨rfl, HB14.out⟩
end Go.Proofs.YthaggdkfaglgaaaGreatDoor

/- No fuse: no call is lost. -/
namespace Go.Proofs.YthaggdkfaglgaaaGreatDoor
set_option maxRecDepth 20000
open DiskMath WalMath

/-- A disk that is on, with no fuse. -/
def Calm (s : St) : Prop := s.fuse = -1 ∧ s.off = false

theorem calm_burn {s : St} (h : Calm s) : s.burn = s := by
  unfold St.burn
  rw [if_neg (by rw [h.1]; decide), if_neg (by rw [h.1]; decide)]

theorem calm_said {s : St} (h : Calm s) : s.said = 0 := by
  unfold St.said
  rw [if_neg (by rw [h.1]; decide)]

theorem calm_run {s : St} (h : Calm s) (o : AOp) : Calm (s.run o) := by
  unfold St.run
  rw [if_neg (by rw [h.1]; decide), calm_burn h]
  exact ⟨h.1, h.2⟩

theorem calm_sync {s : St} (h : Calm s) : s.sync.1 ≠ 6 ∧ Calm s.sync.2 := by
  unfold St.sync
  rw [h.2, if_neg (by decide), if_neg (by rw [h.1]; decide), calm_burn h]
  exact ⟨fun h => absurd h (show ¬ (0 : Nat) = 6 by omega), h.1, h.2⟩

theorem calm_remove {s : St} (h : Calm s) (n : Nm) : (s.remove n).1 ≠ 6 ∧ Calm (s.remove n).2 := by
  unfold St.remove
  rw [h.2, if_neg (by decide)]
  cases getA n s.now with
  | none => exact ⟨fun h => absurd h (show ¬ (8 : Nat) = 6 by omega), h⟩
  | some t => exact ⟨by simp only; rw [calm_said h]; decide, calm_run h _⟩

theorem calm_rename {s : St} (h : Calm s) (n m : Nm) : (s.rename n m).1 ≠ 6 ∧ Calm (s.rename n m).2 := by
  unfold St.rename
  rw [h.2, if_neg (by decide)]
  cases getA n s.now with
  | none => exact ⟨fun h => absurd h (show ¬ (8 : Nat) = 6 by omega), h⟩
  | some t =>
    simp only
    split
    · exact ⟨fun h => absurd h (show ¬ (1 : Nat) = 6 by omega), h⟩
    · exact ⟨by simp only; rw [calm_said h]; decide, calm_run h _⟩

theorem calm_write {s : St} (h : Calm s) (n : Nm) (a : Int) (b : List UInt8) : (s.write n a b).1 ≠ 6 ∧ Calm (s.write n a b).2 := by
  unfold St.write
  rw [h.2, if_neg (by decide)]
  split
  · exact ⟨fun h => absurd h (show ¬ (1 : Nat) = 6 by omega), h⟩
  · split
    · exact ⟨fun h => absurd h (show ¬ (9 : Nat) = 6 by omega), h⟩
    · split
      · exact ⟨fun h => absurd h (show ¬ (7 : Nat) = 6 by omega), h⟩
      · exact ⟨by simp only; rw [calm_said h]; decide, calm_run h _⟩

theorem calm_drop {q : Nm} {a : Nat} : ∀ (k : Nat) {s : St}, Calm s → (dropA q a k s).1 ≠ 6 ∧ Calm (dropA q a k s).2
  | 0, s, h => ⟨fun h => absurd h (show ¬ (0 : Nat) = 6 by omega), h⟩
  | k + 1, s, h => by
    have h1 := calm_remove h (recN q (a + k))
    unfold dropA
    split
    · exact calm_drop k h1.2
    · exact h1

theorem calm_sweep {keep : Nm → Bool} : ∀ (l : List Nm) {s : St}, Calm s → (sweepA keep l s).1 ≠ 6 ∧ Calm (sweepA keep l s).2
  | [], s, h => ⟨fun h => absurd h (show ¬ (0 : Nat) = 6 by omega), h⟩
  | x :: l, s, h => by
    have h1 := calm_remove h x
    unfold sweepA
    split
    · exact calm_sweep l h
    · split
      · exact calm_sweep l h1.2
      · exact h1

theorem calm_lay {q : Nm} {s : St} (h : Calm s) (n : Nat) (r : List UInt8) : (layA q s n r).1 ≠ 6 ∧ Calm (layA q s n r).2 := calm_write h _ _ _

theorem calm_cut {q : Nm} {s : St} (h : Calm s) (f k len : Nat) : (cutA q s f k len).1 ≠ 6 ∧ Calm (cutA q s f k len).2 := by
  have h1 := calm_drop (q := q) (a := f + k) (len - k) h
  unfold cutA
  split
  · exact calm_sync h1.2
  · exact h1

theorem calm_mark {q : Nm} {s : St} (h : Calm s) (old first : Nat) : (markA q s old first).1 ≠ 6 ∧ Calm (markA q s old first).2 := by
  unfold markA
  split
  · exact ⟨fun h => absurd h (show ¬ (0 : Nat) = 6 by omega), h⟩
  · split
    · exact calm_write h _ _ _
    · exact calm_rename h _ _

theorem calm_trim {q : Nm} {s : St} (h : Calm s) (f k : Nat) : (trimA q s f k).1 ≠ 6 ∧ Calm (trimA q s f k).2 := by
  have h1 := calm_mark (q := q) h f (f + k)
  have h2 := calm_sync h1.2
  unfold trimA
  split
  · split
    · exact calm_drop k h2.2
    · exact h2
  · exact h1

theorem calm_crash (s : St) (keep : List Bool) (torn : Int) : Calm (s.crash keep torn) := ⟨rfl, rfl⟩

theorem calm_open {q : Nm} {s : St} (h : Calm s) (f j : Nat) : (openA q s f j).1 ≠ 6 ∧ Calm (openA q s f j).2 := by
  have h1 := calm_sweep (keep := keepB q f (f + j)) (s.now.map (·.1)) h
  unfold openA
  split
  · exact calm_sync h1.2
  · exact h1
end Go.Proofs.YthaggdkfaglgaaaGreatDoor

/- What the laws of layer 9 say of a disk and of what the log on it must be. -/
namespace Go.Proofs.YthaggdkfaglgaaaGreatDoor
set_option maxRecDepth 20000
open Go.RowKit Go.Maps DiskMath WalMath FrameMath Reg

abbrev qL : Nm := [108, 111, 103]
theorem qL_wn : wn qL := ⟨by decide, by decide, by decide⟩
theorem qL_wnB : wnB qL = true := by decide

/-- Files that may be the log's, behind a crash. -/
def Good (V : WS) (F : Fs) : Prop := ∃ k, (k = 0 ∨ V.may = V.first + k) ∧ k ≤ V.recs.length ∧ May qL F (V.first + k) (V.recs.drop k) (floorW V - k)

/-- Between calls, the log being as it must be; N: no more numbers than so many. -/
structure Idle (s : St) (V : WS) (N : Nat) : Prop where
  over : V.over = false
  may : V.may = V.first
  rest : WalMath.Rest qL s V.first V.recs V.sure
  num : V.first + V.recs.length ≤ N
  ops : s.ops.length ≤ 100 + N

/-- A call was lost. -/
structure Gone (s : St) (V : WS) (N : Nat) : Prop where
  over : V.over = true
  off : s.off = true
  good : ∀ keep torn, Good V (s.crash keep torn).now
  num : V.first + V.recs.length ≤ N

theorem Idle.more {s : St} {V : WS} {N N' : Nat} (h : Idle s V N) (hN : N ≤ N') : Idle s V N' := ⟨h.over, h.may, h.rest, Nat.le_trans h.num hN, by have := h.ops; omega⟩
theorem Gone.more {s : St} {V : WS} {N N' : Nat} (h : Gone s V N) (hN : N ≤ N') : Gone s V N' := ⟨h.over, h.off, h.good, Nat.le_trans h.num hN⟩

theorem Idle.room {s : St} {V : WS} {N : Nat} (h : Idle s V N) (x : Int) : Idle { s with room := x } V N := ⟨h.over, h.may, ⟨h.rest.off, h.rest.sure, h.rest.ops, h.rest.now⟩, h.num, h.ops⟩
theorem Idle.fuse {s : St} {V : WS} {N : Nat} (h : Idle s V N) (x : Int) : Idle { s with fuse := x } V N := ⟨h.over, h.may, ⟨h.rest.off, h.rest.sure, h.rest.ops, h.rest.now⟩, h.num, h.ops⟩
theorem crash_room (s : St) (x : Int) (keep : List Bool) (torn : Int) : (({ s with room := x } : St).crash keep torn).now = (s.crash keep torn).now := rfl
theorem crash_fuse (s : St) (x : Int) (keep : List Bool) (torn : Int) : (({ s with fuse := x } : St).crash keep torn).now = (s.crash keep torn).now := rfl
theorem Gone.room {s : St} {V : WS} {N : Nat} (h : Gone s V N) (x : Int) : Gone { s with room := x } V N := ⟨h.over, h.off, fun keep torn => by rw [crash_room]; exact h.good keep torn, h.num⟩
theorem Gone.fuse {s : St} {V : WS} {N : Nat} (h : Gone s V N) (x : Int) : Gone { s with fuse := x } V N := ⟨h.over, h.off, fun keep torn => by rw [crash_fuse]; exact h.good keep torn, h.num⟩

theorem floor_idle {V : WS} (h : V.over = false) : floorW V = V.sure := by
  unfold floorW
  rw [if_neg (by rw [h]; simp)]

theorem May.good {V : WS} {F : Fs} (h : May qL F V.first V.recs (floorW V)) : Good V F := ⟨0, .inl rfl, Nat.zero_le _, by simpa using h⟩

theorem Idle.crash {s : St} {V : WS} {N : Nat} (h : Idle s V N) (keep : List Bool) (torn : Int) : Good V (s.crash keep torn).now :=
  May.good (by rw [floor_idle h.over]; exact h.rest.crash keep torn)

/-- The states behind a call. -/
def tookAll (V : WS) : WS := { V with sure := V.recs.length, least := V.recs.length, may := V.first }
def lostW (V : WS) (least may : Nat) : WS := { V with over := true, least := least, may := may }
def addW (V : WS) (r : List UInt8) : WS := { V with recs := V.recs ++ [r] }
def cutW (V : WS) (k : Nat) : WS := { V with recs := V.recs.take k }
def trimW (V : WS) (k : Nat) : WS := { V with first := V.first + k, recs := V.recs.drop k }

theorem idle_append {s : St} {V : WS} {N : Nat} (h : Idle s V N) (hN : N ≤ 98) (r : List UInt8) (hr : r.length ≤ 16384) :
    (layA qL s (V.first + V.recs.length) r = (7, s)) ∨ ((layA qL s (V.first + V.recs.length) r).1 = 6 ∧ Gone (layA qL s (V.first + V.recs.length) r).2 (lostW (addW V r) V.sure V.first) (N + 1)) ∨
    ((layA qL s (V.first + V.recs.length) r).1 = 0 ∧ Idle (layA qL s (V.first + V.recs.length) r).2 (addW V r) (N + 1)) := by
  have hn := h.num
  rcases rest_append qL_wn h.rest r hr (by omega) with h1 | ⟨h1, h2, h3⟩ | ⟨h1, h2, h3⟩
  · exact .inl h1
  · refine .inr (.inl ⟨h1, rfl, h2, fun keep torn => ⟨0, .inl rfl, Nat.zero_le _, ?_⟩, by simp [lostW, addW]; omega⟩)
    have h4 := (h3 keep torn).more r hr (by omega)
    have e : floorW (lostW (addW V r) V.sure V.first) = V.sure := by unfold floorW lostW addW; simp
    rw [e]
    simpa [lostW, addW] using h4
  · exact .inr (.inr ⟨h1, h.over, h.may, h2, by simp [addW]; omega, by have := h.ops; omega⟩)

theorem idle_sync {s : St} {V : WS} {N : Nat} (h : Idle s V N) :
    (s.sync.1 = 6 ∧ Gone s.sync.2 (lostW V V.sure V.first) N) ∨ (s.sync.1 = 0 ∧ Idle s.sync.2 (tookAll V) N) := by
  rcases rest_sync h.rest with ⟨h1, h2, h3⟩ | ⟨h1, h2, h3⟩
  · refine .inl ⟨h1, rfl, h2, fun keep torn => ⟨0, .inl rfl, Nat.zero_le _, ?_⟩, h.num⟩
    have e : floorW (lostW V V.sure V.first) = V.sure := by unfold floorW lostW; simp
    rw [e]
    simpa [lostW] using h3 keep torn
  · exact .inr ⟨h1, h.over, rfl, h2, h.num, by rw [h3]; simp⟩

theorem idle_cut {s : St} {V : WS} {N k : Nat} (h : Idle s V N) (hk : k ≤ V.recs.length) :
    ((cutA qL s V.first k V.recs.length).1 = 6 ∧ Gone (cutA qL s V.first k V.recs.length).2 (lostW V k V.first) N) ∨ ((cutA qL s V.first k V.recs.length).1 = 0 ∧ Idle (cutA qL s V.first k V.recs.length).2 (tookAll (cutW V k)) N) := by
  have hn := h.num
  rcases rest_cut h.rest hk with ⟨h1, h2, h3⟩ | ⟨h1, h2, h3⟩
  · refine .inl ⟨h1, rfl, h2, fun keep torn => ⟨0, .inl rfl, Nat.zero_le _, ?_⟩, h.num⟩
    have e : floorW (lostW V k V.first) = min V.sure k := by
      unfold floorW lostW
      simp only [true_and]
      split <;> omega
    rw [e]
    simpa [lostW] using h3 keep torn
  · refine .inr ⟨h1, h.over, rfl, ?_, by simp [tookAll, cutW]; omega, by rw [h3]; simp⟩
    have e : (tookAll (cutW V k)).sure = k := by simp [tookAll, cutW]; omega
    rw [e]
    exact h2

theorem idle_trim {s : St} {V : WS} {N k : Nat} (h : Idle s V N) (hk : k ≤ V.recs.length) :
    (trimA qL s V.first k = (7, s)) ∨ ((trimA qL s V.first k).1 = 6 ∧ Gone (trimA qL s V.first k).2 (lostW V V.sure (V.first + k)) N) ∨ ((trimA qL s V.first k).1 = 0 ∧ Idle (trimA qL s V.first k).2 (tookAll (trimW V k)) N) := by
  have hn := h.num
  rcases rest_trim qL_wn h.rest hk with h1 | ⟨h1, h2, h3⟩ | ⟨h1, h2, h3⟩
  · exact .inl h1
  · refine .inr (.inl ⟨h1, rfl, h2, fun keep torn => ?_, h.num⟩)
    have e : floorW (lostW V V.sure (V.first + k)) = V.sure := by unfold floorW lostW; simp
    rcases h3 keep torn with h4 | h4
    · exact ⟨0, .inl rfl, Nat.zero_le _, by rw [e]; simpa [lostW] using h4⟩
    · exact ⟨k, .inr rfl, hk, by rw [e]; exact h4⟩
  · refine .inr (.inr ⟨h1, h.over, rfl, ?_, by simp [tookAll, trimW]; omega, by omega⟩)
    have e : (tookAll (trimW V k)).sure = V.recs.length - k := by simp [tookAll, trimW]
    rw [e]
    exact h2

/-- A log is opened that may be. -/
theorem good_open {s : St} {V : WS} {N k j : Nat} (hoff : s.off = false) (hops : s.ops = []) (hsure : s.sure = s.now) (hN : V.first + V.recs.length ≤ N) (hk0 : k = 0 ∨ V.may = V.first + k) (hk : k ≤ V.recs.length) (hm : May qL s.now (V.first + k) (V.recs.drop k) (floorW V - k)) (hj : j ≤ (V.recs.drop k).length)
    (hread : ∀ i t, i < j → (V.recs.drop k)[i]? = some t → readF s.now qL (V.first + k + i) = some t) (hlast : readF s.now qL (V.first + k + j) = none) :
    floorW V ≤ k + j ∧ k + j ≤ V.recs.length ∧ (((openA qL s (V.first + k) j).1 = 6 ∧ (openA qL s (V.first + k) j).2.off = true ∧ ∀ keep torn, Good V ((openA qL s (V.first + k) j).2.crash keep torn).now) ∨
      ((openA qL s (V.first + k) j).1 = 0 ∧ Idle (openA qL s (V.first + k) j).2 (tookW V k (k + j)) N ∧ (V.recs.drop k).take j = (tookW V k (k + j)).recs ∧ (openA qL s (V.first + k) j).2.ops = [])) := by
  obtain ⟨h1, h2⟩ := open_rest hoff hops hsure hm hj hread hlast
  rw [List.length_drop] at hj
  have er : (V.recs.drop k).take j = (V.recs.take (k + j)).drop k := by
    rw [List.drop_take, Nat.add_sub_cancel_left]
  refine ⟨by omega, by omega, ?_⟩
  rcases h2 with ⟨h3, h4, h5⟩ | ⟨h3, h4, h5⟩
  · exact .inl ⟨h3, h4, fun keep torn => ⟨k, hk0, hk, h5 keep torn⟩⟩
  · refine .inr ⟨h3, ⟨rfl, rfl, ?_, ?_, by rw [h5]; simp⟩, er, h5⟩
    · have e : (tookW V k (k + j)).sure = j := by simp [tookW]
      rw [e]
      rw [er] at h4
      exact h4
    · simp [tookW]; omega
end Go.Proofs.YthaggdkfaglgaaaGreatDoor

