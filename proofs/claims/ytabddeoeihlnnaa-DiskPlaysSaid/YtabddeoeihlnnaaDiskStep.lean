/- do: a call on both disks. -/
import Derived.Test.YtabddeoeihlnnaaDiskTwo
namespace Go.Proofs.Ytabddeoeihlnnaa
open Go.RowKit Go.Maps DiskMath Reg

/-- Which call it is. -/
def kindA (kd : Int) : Nat := ((kd.tmod 10 + 10).tmod 10).toNat

/-- What a call makes of a disk. -/
def stepA (k : Nat) (o : LOp) (s : St) : St :=
  match k with
  | 0 => (s.write o.name o.n o.b).2
  | 1 => (s.cut o.name o.n).2
  | 2 => (s.remove o.name).2
  | 3 => (s.rename o.name o.q).2
  | 4 => s.sync.2
  | 6 => { s with room := o.n }
  | 7 => { s with fuse := max o.n (-1) }
  | 8 => s.crash o.keep o.n
  | _ => s

theorem tmod_ten (x : Int) : -9 ≤ x.tmod 10 ∧ x.tmod 10 ≤ 9 := by
  have h1 := Int.tmod_lt_of_pos x (show (0 : Int) < 10 by omega)
  have h2 := Int.lt_tmod_of_pos x (show (0 : Int) < 10 by omega)
  omega

theorem tmod_kind (x : Int) (hx : -9 ≤ x ∧ x ≤ 9) : 0 ≤ (x + 10).tmod 10 ∧ (x + 10).tmod 10 ≤ 9 := by
  rw [Int.tmod_eq_emod_of_nonneg (by omega)]
  omega

/-- Between the calls: the two disks, the call's own copy of the script's entry, its own bytes. -/
structure Mid (w W X : World) (T0 S0 : Nat → Prop) (d r c c' : Nat) (s s' : St) (b0 wz : Nat) (cells : Array Value) (yv : Value) (bb : List UInt8) : Prop where
  ex : ∃ T S, Two w X T S d r c c' s s' ∧ (∀ k, T k → T0 k ∨ wz ≤ k) ∧ (∀ k, S k → S0 k ∨ wz ≤ k)
  only : OnlyS (fun k => T0 k ∨ S0 k) W X
  box : Blk X b0 33 cells
  row : Row X (b0 + 1) yv bb
  lt : ∀ k, yv.ownBlock = some k → k < wz
  hb : b0 < wz
  hz : wz ≤ X.heap.size
  h0 : ∀ k, T0 k ∨ S0 k → k < b0
  hW : b0 = W.heap.size
  hw : w.heap.size ≤ b0

section
variable {w W X X' : World} {T0 S0 T S : Nat → Prop} {d r c c' c1 : Nat} {s s' s1 : St} {b0 wz : Nat} {cells : Array Value} {yv : Value} {bb : List UInt8}

theorem Mid.step (h : Mid w W X T0 S0 d r c c' s s' b0 wz cells yv bb) (hT : ∀ k, T k → T0 k ∨ S0 k ∨ wz ≤ k) (ho : OnlyS T X X') : Blk X' b0 33 cells ∧ Row X' (b0 + 1) yv bb ∧ OnlyS (fun k => T0 k ∨ S0 k) W X' ∧ wz ≤ X'.heap.size := by
  have off : ∀ k, b0 ≤ k → k < wz → ¬ T k := fun k h1 h2 hk => by
    rcases hT k hk with h3 | h3 | h3
    · have := h.h0 k (.inl h3); omega
    · have := h.h0 k (.inr h3); omega
    · omega
  refine ⟨h.box.only ho (off b0 (Nat.le_refl _) h.hb), h.row.same fun k hk => ho.block k (h.row.lt hk).2 (off k (by have := (h.row.lt hk).1; omega) (h.lt k hk)), h.only.then ho fun k hk ht => ?_, Nat.le_trans h.hz ho.size⟩
  rcases hT k ht with h3 | h3 | h3
  · exact .inl h3
  · exact .inr h3
  · have := h.hW; have := h.hb; omega

theorem Mid.prog (h : Mid w W X T0 S0 d r c c' s s' b0 wz cells yv bb) (h2 : Two w X T S d r c c' s s') (gT : ∀ k, T k → T0 k ∨ wz ≤ k) (gS : ∀ k, S k → S0 k ∨ wz ≤ k) (hn : Next X T d c1 s1 X') : Mid w W X' T0 S0 d r c1 c' s1 s' b0 wz cells yv bb := by
  obtain ⟨e1, e2, e3, e4⟩ := h.step (fun k hk => (gT k hk).imp id .inr) hn.only
  exact ⟨⟨_, S, h2.prog hn, fun k hk => by
    rcases hk with hk | hk
    · exact gT k hk
    · exact .inr (Nat.le_trans h.hz hk.1), gS⟩, e3, e1, e2, h.lt, h.hb, e4, h.h0, h.hW, h.hw⟩

theorem Mid.refr (h : Mid w W X T0 S0 d r c c' s s' b0 wz cells yv bb) (h2 : Two w X T S d r c c' s s') (gT : ∀ k, T k → T0 k ∨ wz ≤ k) (gS : ∀ k, S k → S0 k ∨ wz ≤ k) (hn : NextR X S r c1 s1 X') : Mid w W X' T0 S0 d r c c1 s s1 b0 wz cells yv bb := by
  obtain ⟨e1, e2, e3, e4⟩ := h.step (fun k hk => (gS k hk).elim (fun h => .inr (.inl h)) fun h => .inr (.inr h)) hn.only
  exact ⟨⟨T, _, h2.refr hn, gT, fun k hk => by
    rcases hk with hk | hk
    · exact gS k hk
    · exact .inr (Nat.le_trans h.hz hk.1)⟩, e3, e1, e2, h.lt, h.hb, e4, h.h0, h.hW, h.hw⟩

/-- One of its own bytes is written. -/
theorem Mid.set {g n cap j : Nat} (h : Mid w W X T0 S0 d r c c' s s' b0 wz cells (.slice (some ⟨g, 0, none⟩) n cap) bb) (b : UInt8) : Mid w W (X.setCell ⟨g, j, none⟩ (bv b)) T0 S0 d r c c' s s' b0 wz cells (.slice (some ⟨g, 0, none⟩) n cap) (bb.set j b) := by
  obtain ⟨T, S, h2, gT, gS⟩ := h.ex
  have hlt := h.row.lt (k := g) rfl
  have hgz := h.lt g rfl
  have hnT : ¬ T g := fun hk => by
    rcases gT g hk with h3 | h3
    · have := h.h0 g (.inl h3); omega
    · omega
  have hnS : ¬ S g := fun hk => by
    rcases gS g hk with h3 | h3
    · have := h.h0 g (.inr h3); omega
    · omega
  have hw := h.hw
  have ho : OnlyS (fun k => k = g) X (X.setCell ⟨g, j, none⟩ (bv b)) := only_set X g j (bv b)
  exact ⟨⟨T, S, h2.other ho fun k hk => ⟨by rw [hk]; exact hnT, by rw [hk]; exact hnS, by rw [hk]; omega⟩, gT, gS⟩, h.only.then ho fun k hk e => by have := h.hW; omega,
    h.box.only ho (by show b0 ≠ g; omega), row_set h.row j b, h.lt, h.hb, by simpa [World.setCell] using h.hz, h.h0, h.hW, h.hw⟩

theorem Mid.draws (h : Mid w W X T0 S0 d r c c' s s' b0 wz cells yv bb) (q : Nat) : Mid w W (X.drewN q) T0 S0 d r c c' s s' b0 wz cells yv bb := by
  obtain ⟨T, S, h2, gT, gS⟩ := h.ex
  have hb : Below X.heap.size X (X.drewN q) := below_draws (Below.refl _ _) q
  exact ⟨⟨T, S, h2.below hb, gT, gS⟩, ⟨h.only.os, h.only.tape, h.only.output, h.only.size, h.only.block⟩, h.box, h.row, h.lt, h.hb, h.hz, h.h0, h.hW, h.hw⟩
end

/-- How do ends. -/
structure DidEnd (w W : World) (T0 S0 : Nat → Prop) (d r c : Nat) (s : St) (X : World) : Prop where
  ex : ∃ T S, Two w X T S d r c c s s ∧ (∀ k, T k → T0 k ∨ W.heap.size ≤ k) ∧ (∀ k, S k → S0 k ∨ W.heap.size ≤ k)
  only : OnlyS (fun k => T0 k ∨ S0 k) W X

theorem Mid.did {w W X X' : World} {T0 S0 : Nat → Prop} {d r c : Nat} {s : St} {b0 wz : Nat} {cells : Array Value} {yv : Value} {bb : List UInt8} (h : Mid w W X T0 S0 d r c c s s b0 wz cells yv bb) (hb : Below X.heap.size X X') : DidEnd w W T0 S0 d r c s X' := by
  obtain ⟨T, S, h2, gT, gS⟩ := h.ex
  have h1 := h.hW
  have h3 := h.hb
  exact ⟨⟨T, S, h2.below hb, fun k hk => (gT k hk).imp id fun h => by omega, fun k hk => (gS k hk).imp id fun h => by omega⟩, h.only.then (OnlyS.of_below (S := fun _ => False) hb fun k hk _ => hk) fun _ _ h => h.elim⟩

theorem mid_same {w W X : World} {T0 S0 : Nat → Prop} {d r c : Nat} {s : St} {b0 wz : Nat} {cells : Array Value} {yv : Value} {bb : List UInt8} (h : Mid w W X T0 S0 d r c c s s b0 wz cells yv bb) :
    Calls Try.prog 36 #[dp d, dp r] X fun e w' => e = .returned (.bool true) ∧ DidEnd w W T0 S0 d r c s w' := by
  obtain ⟨T, S, h2, gT, gS⟩ := h.ex
  exact (same_any h2.disk h2.ref).mono fun e w' g => ⟨g.1, h.did g.2⟩

theorem Two.mono {w W : World} {T S : Nat → Prop} {d r c c1 : Nat} {s s' : St} (h : Two w W T S d r c c s s') (hc : c ≤ c1) (h2 : c1 ≤ 2000) : Two w W T S d r c1 c1 s s' := ⟨h.disk.mono hc h2, h.ref.mono hc h2, h.apart, h.newT, h.newS, h.bel⟩

/-- The room of the reference's disk. -/
theorem roomr_next {w : World} {S : Nat → Prop} {r c : Nat} {s : St} (h : IsRef w S r c s) (x : Int) : NextR w S r c { s with room := x } (w.setCell ⟨r, 3, none⟩ (.int .i64 x)) ∧ w.cell? ⟨r, 3, none⟩ = some (.int .i64 s.room) ∧ w.frozen? ⟨r, 3, none⟩ = false := by
  obtain ⟨fv, sv, ov, F1, F2, G, hd, ht⟩ := h.ex
  exact ⟨NextR.of h.lt ((only_set w r 3 (.int .i64 x)).mono fun k _ e => e ▸ ht r (.inl rfl)) (hd.set (s' := { s with room := x }) 3 (.int .i64 x) rfl rfl rfl rfl hd.fuse) fun k hk => .inl (ht k hk), by rw [Blk.cell hd.blk]; rfl, Blk.frozen hd.blk 3⟩

/-- The fuse of the reference's disk. -/
theorem fuser_next {w : World} {S : Nat → Prop} {r c : Nat} {s : St} (h : IsRef w S r c s) (x : Int) (hx : -1 ≤ x ∧ x ≤ 9223372036854775807) : NextR w S r c { s with fuse := x } (w.setCell ⟨r, 4, none⟩ (.int .i64 x)) ∧ w.cell? ⟨r, 4, none⟩ = some (.int .i64 s.fuse) ∧ w.frozen? ⟨r, 4, none⟩ = false := by
  obtain ⟨fv, sv, ov, F1, F2, G, hd, ht⟩ := h.ex
  exact ⟨NextR.of h.lt ((only_set w r 4 (.int .i64 x)).mono fun k _ e => e ▸ ht r (.inl rfl)) (hd.set (s' := { s with fuse := x }) 4 (.int .i64 x) rfl rfl rfl rfl hx) fun k hk => .inl (ht k hk), by rw [Blk.cell hd.blk]; rfl, Blk.frozen hd.blk 4⟩

/-- Two new disks. -/
theorem two_new {w w1 w2 w3 : World} {d r : Nat} {room : Int} (h1 : Below w.heap.size w w1) (hd : IsDisk w2 (fun k => w1.heap.size ≤ k ∧ k < w2.heap.size) d 0 (St.new room)) (hb2 : Below w1.heap.size w1 w2) (hr : IsRef w3 (fun k => w2.heap.size ≤ k ∧ k < w3.heap.size) r 0 (St.new room)) (hb3 : Below w2.heap.size w2 w3) :
    Two w w3 (fun k => w1.heap.size ≤ k ∧ k < w2.heap.size) (fun k => w2.heap.size ≤ k ∧ k < w3.heap.size) d r 0 0 (St.new room) (St.new room) := by
  have s1 := h1.size
  have s2 := hb2.size
  exact ⟨hd.below hb3, hr, fun k hk hs => by omega, fun k hk => by omega, fun k hk => by omega, (h1.trans (hb2.mono s1)).trans (hb3.mono (Nat.le_trans s1 s2))⟩

set_option maxHeartbeats 4000000 in
set_option maxRecDepth 100000 in
theorem ldo_any {w W : World} {T0 S0 : Nat → Prop} {d r c : Nat} {s : St} {o : LOp} {A : Option Addr} {C : Nat} {KA : Option Addr} {KC : Nat} (h : Two w W T0 S0 d r c c s s) (hc : c + 1 ≤ 2000) (hok : LOk o) (hsh : Short o) (hb : Bys w (.slice A o.b.length C) o.b) (hk : Bls w (.slice KA o.keep.length KC) o.keep) :
    Calls Try.prog 12 #[dp d, dp r, .agg #[.int .i64 o.kind, nm o.name, nm o.q, .int .i64 o.n, .slice A o.b.length C, .slice KA o.keep.length KC]] W fun e w' => e = .returned (.bool true) ∧ DidEnd w W T0 S0 d r (c + 1) (stepA (kindA o.kind) o s) w' := by
  obtain ⟨N, hN⟩ : ∃ N, nm o.name = .string N := ⟨_, rfl⟩
  obtain ⟨M, hM⟩ : ∃ M, nm o.q = .string M := ⟨_, rfl⟩
  rw [hN, hM]
  obtain ⟨kd, hkd⟩ : ∃ kd, kd = o.kind := ⟨_, rfl⟩
  obtain ⟨on, hon⟩ : ∃ on, on = o.n := ⟨_, rfl⟩
  obtain ⟨bl, hbl⟩ : ∃ bl, bl = o.b.length := ⟨_, rfl⟩
  obtain ⟨kl, hkl⟩ : ∃ kl, kl = o.keep.length := ⟨_, rfl⟩
  rw [← hbl] at hb
  rw [← hkl] at hk
  rw [← hkd, ← hon, ← hbl, ← hkl]
  have hbl5 : bl ≤ 5000 := by rw [hbl]; exact hsh.1
  have honb : -9223372036854775808 ≤ on ∧ on ≤ 9223372036854775807 := by rw [hon]; exact hok.n
  have hkl9 : kl ≤ 9223372036854775807 := by rw [hkl]; exact hok.keep
  have hb1 : Below W.heap.size W (W.alloc (.cells #[.int .i64 kd, .string N, .string M, .int .i64 on, .slice A bl C, .slice KA kl KC] 33)) := (Below.refl _ _).alloc (Nat.le_refl _) _
  have hb2 : Below W.heap.size W ((W.alloc (.cells #[.int .i64 kd, .string N, .string M, .int .i64 on, .slice A bl C, .slice KA kl KC] 33)).alloc (.cells #[] 5)) := hb1.alloc hb1.size _
  have A1 : Hid (∃ v' w', (Builtin.append_ #[30, 30] 30 #[.slice (some ⟨W.heap.size + 1, 0, none⟩) 0 0, .slice A bl C]).run Try.prog ((W.alloc (.cells #[.int .i64 kd, .string N, .string M, .int .i64 on, .slice A bl C, .slice KA kl KC] 33)).alloc (.cells #[] 5)) = .ok v' w' ∧ Row w' (W.heap.size + 1) v' o.b ∧ Below ((W.alloc (.cells #[.int .i64 kd, .string N, .string M, .int .i64 on, .slice A bl C, .slice KA kl KC] 33)).alloc (.cells #[] 5)).heap.size ((W.alloc (.cells #[.int .i64 kd, .string N, .string M, .int .i64 on, .slice A bl C, .slice KA kl KC] 33)).alloc (.cells #[] 5)) w') :=
    Lib.hid (append_lit (B := W.heap.size + 1) (g := W.heap.size + 1) (Nat.le_refl _) (by have h := heap_alloc_new (W.alloc (.cells #[.int .i64 kd, .string N, .string M, .int .i64 on, .slice A bl C, .slice KA kl KC] 33)) (.cells #[] 5); simpa using h) ((hb.below (Nat.le_refl _) h.bel).below (Nat.le_refl _) hb2) (by omega))
  have HBl := Lib.hid hbl
  have HOn := Lib.hid hon
  have HKl := Lib.hid hkl
  have HKd := Lib.hid hkd
  have HN := Lib.hid hN
  have HM := Lib.hid hM
  have HB1 := Lib.hid hb1
  have HB2 := Lib.hid hb2
  have HTwo := Lib.hid h
  have HOk := Lib.hid hok
  have HBy := Lib.hid hb
  have HKy := Lib.hid hk
  have HC := Lib.hid hc
  have hkb : -9223372036854775808 ≤ kd ∧ kd ≤ 9223372036854775807 := by rw [hkd]; exact hok.kind
  clear hbl hon hkl hkd hN hM hb1 hb2 h hok hb hk hsh hc
  obtain ⟨k1, hr1⟩ : ∃ k1, kd.tmod 10 = k1 := ⟨_, rfl⟩
  have hk1 : -9 ≤ k1 ∧ k1 ≤ 9 := by rw [← hr1]; exact tmod_ten kd
  obtain ⟨k2, hr2⟩ : ∃ k2, (k1 + 10).tmod 10 = k2 := ⟨_, rfl⟩
  have hk2 : 0 ≤ k2 ∧ k2 ≤ 9 := by rw [← hr2]; exact tmod_kind k1 hk1
  have HKk : Hid (kindA kd = k2.toNat) := Lib.hid (by unfold kindA; rw [hr1, hr2])
  rw [HKk.out]
  obtain ⟨k, hk⟩ : ∃ k : Nat, k2 = (k : Int) := ⟨k2.toNat, by omega⟩
  have hk9 : k ≤ 9 := by omega
  rw [show k2.toNat = k by omega]
  rw [hk] at hr2
  clear hk2 hk HKk
  go_enter Try.func12, Try.ntmps12
  go_upto_region 4 with (at_builtin; refine wpList_append_by rfl _ _ 30 rfl _ _ rfl rfl _ A1.out ?_; rintro v w2 ⟨hr2, hb2⟩; (obtain ⟨va, vc, rfl⟩ := slice_of_row hr2); (have HR2 := Lib.hid hr2); (have HB3 := Lib.hid hb2); clear hr2 hb2)
  rw [← HBl.out] at HR2 ⊢
  have hbel : Below W.heap.size W w2 := HB2.out.trans (HB3.out.mono HB2.out.size)
  obtain ⟨b0, hb0⟩ : ∃ b0, b0 = W.heap.size := ⟨_, rfl⟩
  have hbox : Blk w2 b0 33 #[.int .i64 kd, .string N, .string M, .int .i64 on, .slice A bl C, .slice KA kl KC] := by
    rw [hb0]
    exact (((Blk.new W 33 #[.int .i64 kd, .string N, .string M, .int .i64 on, .slice A bl C, .slice KA kl KC]).alloc (.cells #[] 5))).keep HB3.out
  have hmid : Mid w W w2 T0 S0 d r c c s s b0 w2.heap.size #[.int .i64 kd, .string N, .string M, .int .i64 on, .slice A bl C, .slice KA kl KC] (.slice va bl vc) o.b :=
    ⟨⟨T0, S0, HTwo.out.below hbel, fun k hk => .inl hk, fun k hk => .inl hk⟩, OnlyS.of_below hbel fun k hk _ => hk, hbox, by rw [hb0]; exact HR2.out, fun k hk => (HR2.out.lt hk).2, hbox.lt, Nat.le_refl _, fun k hk => by
      rw [hb0]
      rcases hk with hk | hk
      · exact HTwo.out.disk.lt k hk
      · exact HTwo.out.ref.lt k hk, hb0, by rw [hb0]; exact HTwo.out.bel.size⟩
  rw [← hb0]
  clear hb0 HR2 HB3 HB1 HB2 A1 hbel
  obtain ⟨wz, hwz⟩ : ∃ wz, wz = w2.heap.size := ⟨_, rfl⟩
  rw [← hwz] at hmid
  have HMid0 := Lib.hid hmid
  have HMid1 : Hid (Mid w W w2 T0 S0 d r (c + 1) (c + 1) s s b0 wz #[.int .i64 kd, .string N, .string M, .int .i64 on, .slice A bl C, .slice KA kl KC] (.slice va bl vc) o.b) := Lib.hid (by
    obtain ⟨T, S, h2, gT, gS⟩ := hmid.ex
    exact { hmid with ex := ⟨T, S, h2.mono (Nat.le_succ c) HC.out, gT, gS⟩ })
  have hcel : ∀ (X : World) (u v : Nat) (t t' : St) (x y : List UInt8), Mid w W X T0 S0 d r u v t t' b0 wz #[.int .i64 kd, .string N, .string M, .int .i64 on, .slice A bl C, .slice KA kl KC] (.slice va bl vc) x → X.cell? ⟨b0, 0, none⟩ = some (.int .i64 kd) ∧ X.cell? ⟨b0, 1, none⟩ = some (.string N) ∧ X.cell? ⟨b0, 2, none⟩ = some (.string M) ∧ X.cell? ⟨b0, 3, none⟩ = some (.int .i64 on) ∧ X.cell? ⟨b0, 4, none⟩ = some (.slice A bl C) ∧ X.cell? ⟨b0, 5, none⟩ = some (.slice KA kl KC) := fun X u v t t' x y hm =>
    ⟨by rw [Blk.cell hm.box]; rfl, by rw [Blk.cell hm.box]; rfl, by rw [Blk.cell hm.box]; rfl, by rw [Blk.cell hm.box]; rfl, by rw [Blk.cell hm.box]; rfl, by rw [Blk.cell hm.box]; rfl⟩
  have HCel := Lib.hid hcel
  obtain ⟨d0, d1, d2, d3, d4, d5⟩ := HCel.out _ _ _ _ _ _ [] hmid
  clear hmid hbox hwz hcel
  go_upto_region 5 with fail
  clear hr1 hr2
  have hcase : k = 0 ∨ k = 1 ∨ k = 2 ∨ k = 3 ∨ k = 4 ∨ k = 5 ∨ k = 6 ∨ k = 7 ∨ k = 8 ∨ k = 9 := by omega
  rcases hcase with rfl | rfl | rfl | rfl | rfl | rfl | rfl | rfl | rfl | rfl
  · obtain ⟨ER, hER⟩ : ∃ ER : Nat, ER = (s.write o.name on o.b).1 := ⟨_, rfl⟩
    have HC1 : Hid (Calls Try.prog 19 #[dp d, .string N, .int .i64 on, .slice va bl vc] w2 fun e w' => e = .returned (.int .i64 (ER : Int)) ∧ Mid w W w' T0 S0 d r (c + 1) c ((s.write o.name on o.b).2) s b0 wz #[.int .i64 kd, .string N, .string M, .int .i64 on, .slice A bl C, .slice KA kl KC] (.slice va bl vc) o.b) := Lib.hid (by
      have HM := HMid0.out
      obtain ⟨T, S, h2, gT, gS⟩ := HM.ex
      have h := write_any h2.disk HC.out HOk.out.name honb HM.row.bys HBl.out.symm (by omega)
      rw [← hER, HN.out] at h
      exact h.mono fun e w' g => ⟨g.1, HM.prog h2 gT gS g.2⟩)
    have HER := Lib.hid hER
    clear hER
    go_wp2_with fail
    refine HC1.out.mono ?_
    rintro e w3 ⟨rfl, hm3⟩
    have HMid3 := Lib.hid hm3
    obtain ⟨d0, d1, d2, d3, d4, d5⟩ := HCel.out _ _ _ _ _ _ [] hm3
    clear hm3 HC1
    have HC2 : Hid (Calls Try.prog 30 #[dp r, .string N, .int .i64 on, .slice A bl C] w3 fun e w' => e = .returned (.int .i64 (ER : Int)) ∧ Mid w W w' T0 S0 d r (c + 1) (c + 1) ((s.write o.name on o.b).2) ((s.write o.name on o.b).2) b0 wz #[.int .i64 kd, .string N, .string M, .int .i64 on, .slice A bl C, .slice KA kl KC] (.slice va bl vc) o.b) := Lib.hid (by
      have HM := HMid3.out
      obtain ⟨T, S, h2, gT, gS⟩ := HM.ex
      have h := writer_any h2.ref HC.out HOk.out.name honb (HBy.out.below (Nat.le_refl _) h2.bel) HBl.out.symm (by omega)
      rw [← HER.out, HN.out] at h
      exact h.mono fun e w' g => ⟨g.1, HM.refr h2 gT gS g.2⟩)
    go_wp2_with fail
    refine HC2.out.mono ?_
    rintro e w4 ⟨rfl, hm4⟩
    have HMid4 := Lib.hid hm4
    clear hm4 HC2 d0 d1 d2 d3 d4 d5 HMid3 HMid0 HMid1
    go_wp2
    go_loopw [10] (fun s10 wr => ∃ (i : Nat) (bb : List UInt8), i ≤ bl ∧ bb.length = bl ∧ s10 = .int .i64 i ∧ Hid (Mid w W wr T0 S0 d r (c + 1) (c + 1) ((s.write o.name on o.b).2) ((s.write o.name on o.b).2) b0 wz #[.int .i64 kd, .string N, .string M, .int .i64 on, .slice A bl C, .slice KA kl KC] (.slice va bl vc) bb)) (fun s10 _ => bl - (intOf s10).toNat)
    case atStart => exact ⟨0, o.b, Nat.zero_le _, HBl.out.symm, rfl, HMid4⟩
    case round =>
      obtain ⟨i, bb, hi, hll, rfl, HMd⟩ := hrel
      by_cases hlt : i < bl
      · have i0 : (0 : Int) ≤ (i : Int) := Int.natCast_nonneg _
        have i1 : (i : Int) < (bl : Int) := by omega
        obtain ⟨gx, hgx⟩ : ∃ gx, va = some ⟨gx, 0, none⟩ := by
          rcases HMd.out.row.2 with ⟨hv, h0⟩ | ⟨gx, cap, cur, hv, _⟩
          · omega
          · simp at hv
            exact ⟨gx, hv.1⟩
        subst hgx
        obtain ⟨⟨z, hz⟩, hfz⟩ := row_cell HMd.out.row i (by omega)
        have HLL := Lib.hid hll
        clear hll
        go_wp2
        go_roundw
        case rel =>
          obtain ⟨b, hb⟩ := u8_wrap (z + 1)
          refine ⟨i + 1, bb.set i b, by omega, by rw [List.length_set]; exact HLL.out, by go_num, Lib.hid ?_⟩
          have h := HMd.out.set (j := i) b
          rw [← hb] at h
          first | exact h | (rw [IntKind.wrap_u8] at h; exact h)
        case measure => simp [intOf]; omega
      · clear hll
        have HSame := Lib.hid (mid_same HMd.out)
        go_wp2_with fail
        refine HSame.out.mono ?_
        rintro e w9 ⟨rfl, hdid⟩
        have HDid := Lib.hid hdid
        clear hdid
        go_wp2
        go_ret
        exact ⟨rfl, by first | exact HDid.out | (unfold stepA; simp only; rw [← HOn.out]; exact HDid.out)⟩
  · obtain ⟨ER, hER⟩ : ∃ ER : Nat, ER = (s.cut o.name on).1 := ⟨_, rfl⟩
    have HC1 : Hid (Calls Try.prog 22 #[dp d, .string N, .int .i64 on] w2 fun e w' => e = .returned (.int .i64 (ER : Int)) ∧ Mid w W w' T0 S0 d r (c + 1) c ((s.cut o.name on).2) s b0 wz #[.int .i64 kd, .string N, .string M, .int .i64 on, .slice A bl C, .slice KA kl KC] (.slice va bl vc) o.b) := Lib.hid (by
      have HM := HMid0.out
      obtain ⟨T, S, h2, gT, gS⟩ := HM.ex
      have h := cut_any h2.disk HC.out HOk.out.name honb
      rw [← hER, HN.out] at h
      exact h.mono fun e w' g => ⟨g.1, HM.prog h2 gT gS g.2⟩)
    have HER := Lib.hid hER
    clear hER
    go_wp2_with fail
    refine HC1.out.mono ?_
    rintro e w3 ⟨rfl, hm3⟩
    have HMid3 := Lib.hid hm3
    obtain ⟨d0, d1, d2, d3, d4, d5⟩ := HCel.out _ _ _ _ _ _ [] hm3
    clear hm3 HC1
    have HC2 : Hid (Calls Try.prog 31 #[dp r, .string N, .int .i64 on] w3 fun e w' => e = .returned (.int .i64 (ER : Int)) ∧ Mid w W w' T0 S0 d r (c + 1) (c + 1) ((s.cut o.name on).2) ((s.cut o.name on).2) b0 wz #[.int .i64 kd, .string N, .string M, .int .i64 on, .slice A bl C, .slice KA kl KC] (.slice va bl vc) o.b) := Lib.hid (by
      have HM := HMid3.out
      obtain ⟨T, S, h2, gT, gS⟩ := HM.ex
      have h := cutr_any (n := o.name) h2.ref HC.out honb
      rw [← HER.out, HN.out] at h
      exact h.mono fun e w' g => ⟨g.1, HM.refr h2 gT gS g.2⟩)
    go_wp2_with fail
    refine HC2.out.mono ?_
    rintro e w4 ⟨rfl, hm4⟩
    have HMid4 := Lib.hid hm4
    clear hm4 HC2 d0 d1 d2 d3 d4 d5 HMid3 HMid0 HMid1
    go_wp2
    go_loopw [10] (fun s10 wr => ∃ (i : Nat) (bb : List UInt8), i ≤ bl ∧ bb.length = bl ∧ s10 = .int .i64 i ∧ Hid (Mid w W wr T0 S0 d r (c + 1) (c + 1) ((s.cut o.name on).2) ((s.cut o.name on).2) b0 wz #[.int .i64 kd, .string N, .string M, .int .i64 on, .slice A bl C, .slice KA kl KC] (.slice va bl vc) bb)) (fun s10 _ => bl - (intOf s10).toNat)
    case atStart => exact ⟨0, o.b, Nat.zero_le _, HBl.out.symm, rfl, HMid4⟩
    case round =>
      obtain ⟨i, bb, hi, hll, rfl, HMd⟩ := hrel
      by_cases hlt : i < bl
      · have i0 : (0 : Int) ≤ (i : Int) := Int.natCast_nonneg _
        have i1 : (i : Int) < (bl : Int) := by omega
        obtain ⟨gx, hgx⟩ : ∃ gx, va = some ⟨gx, 0, none⟩ := by
          rcases HMd.out.row.2 with ⟨hv, h0⟩ | ⟨gx, cap, cur, hv, _⟩
          · omega
          · simp at hv
            exact ⟨gx, hv.1⟩
        subst hgx
        obtain ⟨⟨z, hz⟩, hfz⟩ := row_cell HMd.out.row i (by omega)
        have HLL := Lib.hid hll
        clear hll
        go_wp2
        go_roundw
        case rel =>
          obtain ⟨b, hb⟩ := u8_wrap (z + 1)
          refine ⟨i + 1, bb.set i b, by omega, by rw [List.length_set]; exact HLL.out, by go_num, Lib.hid ?_⟩
          have h := HMd.out.set (j := i) b
          rw [← hb] at h
          first | exact h | (rw [IntKind.wrap_u8] at h; exact h)
        case measure => simp [intOf]; omega
      · clear hll
        have HSame := Lib.hid (mid_same HMd.out)
        go_wp2_with fail
        refine HSame.out.mono ?_
        rintro e w9 ⟨rfl, hdid⟩
        have HDid := Lib.hid hdid
        clear hdid
        go_wp2
        go_ret
        exact ⟨rfl, by first | exact HDid.out | (unfold stepA; simp only; rw [← HOn.out]; exact HDid.out)⟩
  · obtain ⟨ER, hER⟩ : ∃ ER : Nat, ER = (s.remove o.name).1 := ⟨_, rfl⟩
    have HC1 : Hid (Calls Try.prog 24 #[dp d, .string N] w2 fun e w' => e = .returned (.int .i64 (ER : Int)) ∧ Mid w W w' T0 S0 d r (c + 1) c ((s.remove o.name).2) s b0 wz #[.int .i64 kd, .string N, .string M, .int .i64 on, .slice A bl C, .slice KA kl KC] (.slice va bl vc) o.b) := Lib.hid (by
      have HM := HMid0.out
      obtain ⟨T, S, h2, gT, gS⟩ := HM.ex
      have h := remove_any h2.disk HC.out HOk.out.name
      rw [← hER, HN.out] at h
      exact h.mono fun e w' g => ⟨g.1, HM.prog h2 gT gS g.2⟩)
    have HER := Lib.hid hER
    clear hER
    go_wp2_with fail
    refine HC1.out.mono ?_
    rintro e w3 ⟨rfl, hm3⟩
    have HMid3 := Lib.hid hm3
    obtain ⟨d0, d1, d2, d3, d4, d5⟩ := HCel.out _ _ _ _ _ _ [] hm3
    clear hm3 HC1
    have HC2 : Hid (Calls Try.prog 32 #[dp r, .string N] w3 fun e w' => e = .returned (.int .i64 (ER : Int)) ∧ Mid w W w' T0 S0 d r (c + 1) (c + 1) ((s.remove o.name).2) ((s.remove o.name).2) b0 wz #[.int .i64 kd, .string N, .string M, .int .i64 on, .slice A bl C, .slice KA kl KC] (.slice va bl vc) o.b) := Lib.hid (by
      have HM := HMid3.out
      obtain ⟨T, S, h2, gT, gS⟩ := HM.ex
      have h := remover_any (n := o.name) h2.ref HC.out
      rw [← HER.out, HN.out] at h
      exact h.mono fun e w' g => ⟨g.1, HM.refr h2 gT gS g.2⟩)
    go_wp2_with fail
    refine HC2.out.mono ?_
    rintro e w4 ⟨rfl, hm4⟩
    have HMid4 := Lib.hid hm4
    clear hm4 HC2 d0 d1 d2 d3 d4 d5 HMid3 HMid0 HMid1
    go_wp2
    go_loopw [10] (fun s10 wr => ∃ (i : Nat) (bb : List UInt8), i ≤ bl ∧ bb.length = bl ∧ s10 = .int .i64 i ∧ Hid (Mid w W wr T0 S0 d r (c + 1) (c + 1) ((s.remove o.name).2) ((s.remove o.name).2) b0 wz #[.int .i64 kd, .string N, .string M, .int .i64 on, .slice A bl C, .slice KA kl KC] (.slice va bl vc) bb)) (fun s10 _ => bl - (intOf s10).toNat)
    case atStart => exact ⟨0, o.b, Nat.zero_le _, HBl.out.symm, rfl, HMid4⟩
    case round =>
      obtain ⟨i, bb, hi, hll, rfl, HMd⟩ := hrel
      by_cases hlt : i < bl
      · have i0 : (0 : Int) ≤ (i : Int) := Int.natCast_nonneg _
        have i1 : (i : Int) < (bl : Int) := by omega
        obtain ⟨gx, hgx⟩ : ∃ gx, va = some ⟨gx, 0, none⟩ := by
          rcases HMd.out.row.2 with ⟨hv, h0⟩ | ⟨gx, cap, cur, hv, _⟩
          · omega
          · simp at hv
            exact ⟨gx, hv.1⟩
        subst hgx
        obtain ⟨⟨z, hz⟩, hfz⟩ := row_cell HMd.out.row i (by omega)
        have HLL := Lib.hid hll
        clear hll
        go_wp2
        go_roundw
        case rel =>
          obtain ⟨b, hb⟩ := u8_wrap (z + 1)
          refine ⟨i + 1, bb.set i b, by omega, by rw [List.length_set]; exact HLL.out, by go_num, Lib.hid ?_⟩
          have h := HMd.out.set (j := i) b
          rw [← hb] at h
          first | exact h | (rw [IntKind.wrap_u8] at h; exact h)
        case measure => simp [intOf]; omega
      · clear hll
        have HSame := Lib.hid (mid_same HMd.out)
        go_wp2_with fail
        refine HSame.out.mono ?_
        rintro e w9 ⟨rfl, hdid⟩
        have HDid := Lib.hid hdid
        clear hdid
        go_wp2
        go_ret
        exact ⟨rfl, by first | exact HDid.out | (unfold stepA; simp only; rw [← HOn.out]; exact HDid.out)⟩
  · obtain ⟨ER, hER⟩ : ∃ ER : Nat, ER = (s.rename o.name o.q).1 := ⟨_, rfl⟩
    have HC1 : Hid (Calls Try.prog 25 #[dp d, .string N, .string M] w2 fun e w' => e = .returned (.int .i64 (ER : Int)) ∧ Mid w W w' T0 S0 d r (c + 1) c ((s.rename o.name o.q).2) s b0 wz #[.int .i64 kd, .string N, .string M, .int .i64 on, .slice A bl C, .slice KA kl KC] (.slice va bl vc) o.b) := Lib.hid (by
      have HMm := HM
      have HM := HMid0.out
      obtain ⟨T, S, h2, gT, gS⟩ := HM.ex
      have h := rename_any h2.disk HC.out HOk.out.name HOk.out.q
      rw [← hER, HN.out, HMm.out] at h
      exact h.mono fun e w' g => ⟨g.1, HM.prog h2 gT gS g.2⟩)
    have HER := Lib.hid hER
    clear hER
    go_wp2_with fail
    refine HC1.out.mono ?_
    rintro e w3 ⟨rfl, hm3⟩
    have HMid3 := Lib.hid hm3
    obtain ⟨d0, d1, d2, d3, d4, d5⟩ := HCel.out _ _ _ _ _ _ [] hm3
    clear hm3 HC1
    have HC2 : Hid (Calls Try.prog 33 #[dp r, .string N, .string M] w3 fun e w' => e = .returned (.int .i64 (ER : Int)) ∧ Mid w W w' T0 S0 d r (c + 1) (c + 1) ((s.rename o.name o.q).2) ((s.rename o.name o.q).2) b0 wz #[.int .i64 kd, .string N, .string M, .int .i64 on, .slice A bl C, .slice KA kl KC] (.slice va bl vc) o.b) := Lib.hid (by
      have HMm := HM
      have HM := HMid3.out
      obtain ⟨T, S, h2, gT, gS⟩ := HM.ex
      have h := renamer_any (n := o.name) h2.ref HC.out HOk.out.q
      rw [← HER.out, HN.out, HMm.out] at h
      exact h.mono fun e w' g => ⟨g.1, HM.refr h2 gT gS g.2⟩)
    go_wp2_with fail
    refine HC2.out.mono ?_
    rintro e w4 ⟨rfl, hm4⟩
    have HMid4 := Lib.hid hm4
    clear hm4 HC2 d0 d1 d2 d3 d4 d5 HMid3 HMid0 HMid1
    go_wp2
    go_loopw [10] (fun s10 wr => ∃ (i : Nat) (bb : List UInt8), i ≤ bl ∧ bb.length = bl ∧ s10 = .int .i64 i ∧ Hid (Mid w W wr T0 S0 d r (c + 1) (c + 1) ((s.rename o.name o.q).2) ((s.rename o.name o.q).2) b0 wz #[.int .i64 kd, .string N, .string M, .int .i64 on, .slice A bl C, .slice KA kl KC] (.slice va bl vc) bb)) (fun s10 _ => bl - (intOf s10).toNat)
    case atStart => exact ⟨0, o.b, Nat.zero_le _, HBl.out.symm, rfl, HMid4⟩
    case round =>
      obtain ⟨i, bb, hi, hll, rfl, HMd⟩ := hrel
      by_cases hlt : i < bl
      · have i0 : (0 : Int) ≤ (i : Int) := Int.natCast_nonneg _
        have i1 : (i : Int) < (bl : Int) := by omega
        obtain ⟨gx, hgx⟩ : ∃ gx, va = some ⟨gx, 0, none⟩ := by
          rcases HMd.out.row.2 with ⟨hv, h0⟩ | ⟨gx, cap, cur, hv, _⟩
          · omega
          · simp at hv
            exact ⟨gx, hv.1⟩
        subst hgx
        obtain ⟨⟨z, hz⟩, hfz⟩ := row_cell HMd.out.row i (by omega)
        have HLL := Lib.hid hll
        clear hll
        go_wp2
        go_roundw
        case rel =>
          obtain ⟨b, hb⟩ := u8_wrap (z + 1)
          refine ⟨i + 1, bb.set i b, by omega, by rw [List.length_set]; exact HLL.out, by go_num, Lib.hid ?_⟩
          have h := HMd.out.set (j := i) b
          rw [← hb] at h
          first | exact h | (rw [IntKind.wrap_u8] at h; exact h)
        case measure => simp [intOf]; omega
      · clear hll
        have HSame := Lib.hid (mid_same HMd.out)
        go_wp2_with fail
        refine HSame.out.mono ?_
        rintro e w9 ⟨rfl, hdid⟩
        have HDid := Lib.hid hdid
        clear hdid
        go_wp2
        go_ret
        exact ⟨rfl, by first | exact HDid.out | (unfold stepA; simp only; rw [← HOn.out]; exact HDid.out)⟩
  · obtain ⟨ER, hER⟩ : ∃ ER : Nat, ER = (s.sync).1 := ⟨_, rfl⟩
    have HC1 : Hid (Calls Try.prog 20 #[dp d] w2 fun e w' => e = .returned (.int .i64 (ER : Int)) ∧ Mid w W w' T0 S0 d r (c + 1) (c + 1) ((s.sync).2) s b0 wz #[.int .i64 kd, .string N, .string M, .int .i64 on, .slice A bl C, .slice KA kl KC] (.slice va bl vc) o.b) := Lib.hid (by
      have HM := HMid1.out
      obtain ⟨T, S, h2, gT, gS⟩ := HM.ex
      have h := sync_any h2.disk
      rw [← hER] at h
      exact h.mono fun e w' g => ⟨g.1, HM.prog h2 gT gS g.2⟩)
    have HER := Lib.hid hER
    clear hER
    go_wp2_with fail
    refine HC1.out.mono ?_
    rintro e w3 ⟨rfl, hm3⟩
    have HMid3 := Lib.hid hm3
    obtain ⟨d0, d1, d2, d3, d4, d5⟩ := HCel.out _ _ _ _ _ _ [] hm3
    clear hm3 HC1
    have HC2 : Hid (Calls Try.prog 34 #[dp r] w3 fun e w' => e = .returned (.int .i64 (ER : Int)) ∧ Mid w W w' T0 S0 d r (c + 1) (c + 1) ((s.sync).2) ((s.sync).2) b0 wz #[.int .i64 kd, .string N, .string M, .int .i64 on, .slice A bl C, .slice KA kl KC] (.slice va bl vc) o.b) := Lib.hid (by
      have HM := HMid3.out
      obtain ⟨T, S, h2, gT, gS⟩ := HM.ex
      have h := syncr_any h2.ref
      rw [← HER.out] at h
      exact h.mono fun e w' g => ⟨g.1, HM.refr h2 gT gS g.2⟩)
    go_wp2_with fail
    refine HC2.out.mono ?_
    rintro e w4 ⟨rfl, hm4⟩
    have HMid4 := Lib.hid hm4
    clear hm4 HC2 d0 d1 d2 d3 d4 d5 HMid3 HMid0 HMid1
    go_wp2
    go_loopw [10] (fun s10 wr => ∃ (i : Nat) (bb : List UInt8), i ≤ bl ∧ bb.length = bl ∧ s10 = .int .i64 i ∧ Hid (Mid w W wr T0 S0 d r (c + 1) (c + 1) ((s.sync).2) ((s.sync).2) b0 wz #[.int .i64 kd, .string N, .string M, .int .i64 on, .slice A bl C, .slice KA kl KC] (.slice va bl vc) bb)) (fun s10 _ => bl - (intOf s10).toNat)
    case atStart => exact ⟨0, o.b, Nat.zero_le _, HBl.out.symm, rfl, HMid4⟩
    case round =>
      obtain ⟨i, bb, hi, hll, rfl, HMd⟩ := hrel
      by_cases hlt : i < bl
      · have i0 : (0 : Int) ≤ (i : Int) := Int.natCast_nonneg _
        have i1 : (i : Int) < (bl : Int) := by omega
        obtain ⟨gx, hgx⟩ : ∃ gx, va = some ⟨gx, 0, none⟩ := by
          rcases HMd.out.row.2 with ⟨hv, h0⟩ | ⟨gx, cap, cur, hv, _⟩
          · omega
          · simp at hv
            exact ⟨gx, hv.1⟩
        subst hgx
        obtain ⟨⟨z, hz⟩, hfz⟩ := row_cell HMd.out.row i (by omega)
        have HLL := Lib.hid hll
        clear hll
        go_wp2
        go_roundw
        case rel =>
          obtain ⟨b, hb⟩ := u8_wrap (z + 1)
          refine ⟨i + 1, bb.set i b, by omega, by rw [List.length_set]; exact HLL.out, by go_num, Lib.hid ?_⟩
          have h := HMd.out.set (j := i) b
          rw [← hb] at h
          first | exact h | (rw [IntKind.wrap_u8] at h; exact h)
        case measure => simp [intOf]; omega
      · clear hll
        have HSame := Lib.hid (mid_same HMd.out)
        go_wp2_with fail
        refine HSame.out.mono ?_
        rintro e w9 ⟨rfl, hdid⟩
        have HDid := Lib.hid hdid
        clear hdid
        go_wp2
        go_ret
        exact ⟨rfl, by first | exact HDid.out | (unfold stepA; simp only; rw [← HOn.out]; exact HDid.out)⟩
  · clear d0 d1 d2 d3 d4 d5 HMid0
    go_wp2
    go_loopw [10] (fun s10 wr => ∃ (i : Nat) (bb : List UInt8), i ≤ bl ∧ bb.length = bl ∧ s10 = .int .i64 i ∧ Hid (Mid w W wr T0 S0 d r (c + 1) (c + 1) (s) (s) b0 wz #[.int .i64 kd, .string N, .string M, .int .i64 on, .slice A bl C, .slice KA kl KC] (.slice va bl vc) bb)) (fun s10 _ => bl - (intOf s10).toNat)
    case atStart => exact ⟨0, o.b, Nat.zero_le _, HBl.out.symm, rfl, HMid1⟩
    case round =>
      obtain ⟨i, bb, hi, hll, rfl, HMd⟩ := hrel
      by_cases hlt : i < bl
      · have i0 : (0 : Int) ≤ (i : Int) := Int.natCast_nonneg _
        have i1 : (i : Int) < (bl : Int) := by omega
        obtain ⟨gx, hgx⟩ : ∃ gx, va = some ⟨gx, 0, none⟩ := by
          rcases HMd.out.row.2 with ⟨hv, h0⟩ | ⟨gx, cap, cur, hv, _⟩
          · omega
          · simp at hv
            exact ⟨gx, hv.1⟩
        subst hgx
        obtain ⟨⟨z, hz⟩, hfz⟩ := row_cell HMd.out.row i (by omega)
        have HLL := Lib.hid hll
        clear hll
        go_wp2
        go_roundw
        case rel =>
          obtain ⟨b, hb⟩ := u8_wrap (z + 1)
          refine ⟨i + 1, bb.set i b, by omega, by rw [List.length_set]; exact HLL.out, by go_num, Lib.hid ?_⟩
          have h := HMd.out.set (j := i) b
          rw [← hb] at h
          first | exact h | (rw [IntKind.wrap_u8] at h; exact h)
        case measure => simp [intOf]; omega
      · clear hll
        have HSame := Lib.hid (mid_same HMd.out)
        go_wp2_with fail
        refine HSame.out.mono ?_
        rintro e w9 ⟨rfl, hdid⟩
        have HDid := Lib.hid hdid
        clear hdid
        go_wp2
        go_ret
        exact ⟨rfl, by first | exact HDid.out | (unfold stepA; simp only; rw [← HOn.out]; exact HDid.out)⟩
  · have HC1 : Hid (Calls Try.prog 26 #[dp d, .int .i64 on] w2 fun e w' => e = .returned (.tuple #[]) ∧ Mid w W w' T0 S0 d r (c + 1) (c + 1) ({ s with room := on }) s b0 wz #[.int .i64 kd, .string N, .string M, .int .i64 on, .slice A bl C, .slice KA kl KC] (.slice va bl vc) o.b) := Lib.hid (by
      have HM := HMid1.out
      obtain ⟨T, S, h2, gT, gS⟩ := HM.ex
      have h := room_any h2.disk on
      exact h.mono fun e w' g => ⟨g.1, HM.prog h2 gT gS g.2⟩)
    go_wp2_with fail
    refine HC1.out.mono ?_
    rintro e w3 ⟨rfl, hm3⟩
    have HMid3 := Lib.hid hm3
    obtain ⟨d0, d1, d2, d3, d4, d5⟩ := HCel.out _ _ _ _ _ _ [] hm3
    obtain ⟨hm4, g1, g2⟩ : Mid w W (w3.setCell ⟨r, 3, none⟩ (.int .i64 on)) T0 S0 d r (c + 1) (c + 1) ({ s with room := on }) ({ s with room := on }) b0 wz #[.int .i64 kd, .string N, .string M, .int .i64 on, .slice A bl C, .slice KA kl KC] (.slice va bl vc) o.b ∧ w3.cell? ⟨r, 3, none⟩ = some (.int .i64 s.room) ∧ w3.frozen? ⟨r, 3, none⟩ = false := by
      obtain ⟨T, S, h2, gT, gS⟩ := hm3.ex
      obtain ⟨n1, n2, n3⟩ := roomr_next h2.ref on
      exact ⟨hm3.refr h2 gT gS n1, n2, n3⟩
    have HMid4 := Lib.hid hm4
    clear hm3 hm4 HC1 HMid3 HMid0 HMid1
    go_wp2
    go_loopw [10] (fun s10 wr => ∃ (i : Nat) (bb : List UInt8), i ≤ bl ∧ bb.length = bl ∧ s10 = .int .i64 i ∧ Hid (Mid w W wr T0 S0 d r (c + 1) (c + 1) ({ s with room := on }) ({ s with room := on }) b0 wz #[.int .i64 kd, .string N, .string M, .int .i64 on, .slice A bl C, .slice KA kl KC] (.slice va bl vc) bb)) (fun s10 _ => bl - (intOf s10).toNat)
    case atStart => exact ⟨0, o.b, Nat.zero_le _, HBl.out.symm, rfl, HMid4⟩
    case round =>
      obtain ⟨i, bb, hi, hll, rfl, HMd⟩ := hrel
      by_cases hlt : i < bl
      · have i0 : (0 : Int) ≤ (i : Int) := Int.natCast_nonneg _
        have i1 : (i : Int) < (bl : Int) := by omega
        obtain ⟨gx, hgx⟩ : ∃ gx, va = some ⟨gx, 0, none⟩ := by
          rcases HMd.out.row.2 with ⟨hv, h0⟩ | ⟨gx, cap, cur, hv, _⟩
          · omega
          · simp at hv
            exact ⟨gx, hv.1⟩
        subst hgx
        obtain ⟨⟨z, hz⟩, hfz⟩ := row_cell HMd.out.row i (by omega)
        have HLL := Lib.hid hll
        clear hll
        go_wp2
        go_roundw
        case rel =>
          obtain ⟨b, hb⟩ := u8_wrap (z + 1)
          refine ⟨i + 1, bb.set i b, by omega, by rw [List.length_set]; exact HLL.out, by go_num, Lib.hid ?_⟩
          have h := HMd.out.set (j := i) b
          rw [← hb] at h
          first | exact h | (rw [IntKind.wrap_u8] at h; exact h)
        case measure => simp [intOf]; omega
      · clear hll
        have HSame := Lib.hid (mid_same HMd.out)
        go_wp2_with fail
        refine HSame.out.mono ?_
        rintro e w9 ⟨rfl, hdid⟩
        have HDid := Lib.hid hdid
        clear hdid
        go_wp2
        go_ret
        exact ⟨rfl, by first | exact HDid.out | (unfold stepA; simp only; rw [← HOn.out]; exact HDid.out)⟩
  · have hmax : ∀ (ts : Array TypeId) (ty : TypeId) (W : World), (Builtin.max_ ts ty #[.int .i64 on, .int .i64 (-1)]).run Try.prog W = .ok (.int .i64 (max on (-1))) W := fun ts ty W => by
      have e : (if (-1 : Int) > on then -1 else on) = max on (-1) := by omega
      rw [run_max_int2, e]
    have HC1 : Hid (Calls Try.prog 21 #[dp d, .int .i64 on] w2 fun e w' => e = .returned (.tuple #[]) ∧ Mid w W w' T0 S0 d r (c + 1) (c + 1) ({ s with fuse := max on (-1) }) s b0 wz #[.int .i64 kd, .string N, .string M, .int .i64 on, .slice A bl C, .slice KA kl KC] (.slice va bl vc) o.b) := Lib.hid (by
      have HM := HMid1.out
      obtain ⟨T, S, h2, gT, gS⟩ := HM.ex
      have h := fuse_any h2.disk on honb.2
      exact h.mono fun e w' g => ⟨g.1, HM.prog h2 gT gS g.2⟩)
    go_wp2_with fail
    refine HC1.out.mono ?_
    rintro e w3 ⟨rfl, hm3⟩
    have HMid3 := Lib.hid hm3
    obtain ⟨d0, d1, d2, d3, d4, d5⟩ := HCel.out _ _ _ _ _ _ [] hm3
    obtain ⟨hm4, g1, g2⟩ : Mid w W (w3.setCell ⟨r, 4, none⟩ (.int .i64 (max on (-1)))) T0 S0 d r (c + 1) (c + 1) ({ s with fuse := max on (-1) }) ({ s with fuse := max on (-1) }) b0 wz #[.int .i64 kd, .string N, .string M, .int .i64 on, .slice A bl C, .slice KA kl KC] (.slice va bl vc) o.b ∧ w3.cell? ⟨r, 4, none⟩ = some (.int .i64 s.fuse) ∧ w3.frozen? ⟨r, 4, none⟩ = false := by
      obtain ⟨T, S, h2, gT, gS⟩ := hm3.ex
      obtain ⟨n1, n2, n3⟩ := fuser_next h2.ref (max on (-1)) (by omega)
      exact ⟨hm3.refr h2 gT gS n1, n2, n3⟩
    have HMid4 := Lib.hid hm4
    clear hm3 hm4 HC1 HMid3 HMid0 HMid1
    go_wp2
    go_loopw [10] (fun s10 wr => ∃ (i : Nat) (bb : List UInt8), i ≤ bl ∧ bb.length = bl ∧ s10 = .int .i64 i ∧ Hid (Mid w W wr T0 S0 d r (c + 1) (c + 1) ({ s with fuse := max on (-1) }) ({ s with fuse := max on (-1) }) b0 wz #[.int .i64 kd, .string N, .string M, .int .i64 on, .slice A bl C, .slice KA kl KC] (.slice va bl vc) bb)) (fun s10 _ => bl - (intOf s10).toNat)
    case atStart => exact ⟨0, o.b, Nat.zero_le _, HBl.out.symm, rfl, HMid4⟩
    case round =>
      obtain ⟨i, bb, hi, hll, rfl, HMd⟩ := hrel
      by_cases hlt : i < bl
      · have i0 : (0 : Int) ≤ (i : Int) := Int.natCast_nonneg _
        have i1 : (i : Int) < (bl : Int) := by omega
        obtain ⟨gx, hgx⟩ : ∃ gx, va = some ⟨gx, 0, none⟩ := by
          rcases HMd.out.row.2 with ⟨hv, h0⟩ | ⟨gx, cap, cur, hv, _⟩
          · omega
          · simp at hv
            exact ⟨gx, hv.1⟩
        subst hgx
        obtain ⟨⟨z, hz⟩, hfz⟩ := row_cell HMd.out.row i (by omega)
        have HLL := Lib.hid hll
        clear hll
        go_wp2
        go_roundw
        case rel =>
          obtain ⟨b, hb⟩ := u8_wrap (z + 1)
          refine ⟨i + 1, bb.set i b, by omega, by rw [List.length_set]; exact HLL.out, by go_num, Lib.hid ?_⟩
          have h := HMd.out.set (j := i) b
          rw [← hb] at h
          first | exact h | (rw [IntKind.wrap_u8] at h; exact h)
        case measure => simp [intOf]; omega
      · clear hll
        have HSame := Lib.hid (mid_same HMd.out)
        go_wp2_with fail
        refine HSame.out.mono ?_
        rintro e w9 ⟨rfl, hdid⟩
        have HDid := Lib.hid hdid
        clear hdid
        go_wp2
        go_ret
        exact ⟨rfl, by first | exact HDid.out | (unfold stepA; simp only; rw [← HOn.out]; exact HDid.out)⟩
  · have HC1 : Hid (Calls Try.prog 17 #[dp d, .slice KA kl KC, .int .i64 on] w2 fun e w' => e = .returned (.tuple #[]) ∧ Mid w W w' T0 S0 d r (c + 1) (c + 1) (s.crash o.keep on) s b0 wz #[.int .i64 kd, .string N, .string M, .int .i64 on, .slice A bl C, .slice KA kl KC] (.slice va bl vc) o.b) := Lib.hid (by
      have HM := HMid1.out
      obtain ⟨T, S, h2, gT, gS⟩ := HM.ex
      have h := crash_any (torn := on) h2.disk (HKy.out.below h2.bel) HKl.out.symm hkl9
      exact h.mono fun e w' g => ⟨g.1, HM.prog h2 gT gS g.2⟩)
    go_wp2_with fail
    refine HC1.out.mono ?_
    rintro e w3 ⟨rfl, hm3⟩
    have HMid3 := Lib.hid hm3
    obtain ⟨d0, d1, d2, d3, d4, d5⟩ := HCel.out _ _ _ _ _ _ [] hm3
    clear hm3 HC1
    have HC2 : Hid (Calls Try.prog 35 #[dp r, .slice KA kl KC, .int .i64 on] w3 fun e w' => e = .returned (.tuple #[]) ∧ Mid w W w' T0 S0 d r (c + 1) (c + 1) (s.crash o.keep on) (s.crash o.keep on) b0 wz #[.int .i64 kd, .string N, .string M, .int .i64 on, .slice A bl C, .slice KA kl KC] (.slice va bl vc) o.b) := Lib.hid (by
      have HM := HMid3.out
      obtain ⟨T, S, h2, gT, gS⟩ := HM.ex
      have h := crashr_any (torn := on) h2.ref (HKy.out.below h2.bel) HKl.out.symm hkl9
      exact h.mono fun e w' g => ⟨g.1, HM.refr h2 gT gS g.2⟩)
    go_wp2_with fail
    refine HC2.out.mono ?_
    rintro e w4 ⟨rfl, hm4⟩
    have HMid4 := Lib.hid hm4
    clear hm4 HC2 d0 d1 d2 d3 d4 d5 HMid3 HMid0 HMid1
    go_wp2
    go_loopw [10] (fun s10 wr => ∃ (i : Nat) (bb : List UInt8), i ≤ bl ∧ bb.length = bl ∧ s10 = .int .i64 i ∧ Hid (Mid w W wr T0 S0 d r (c + 1) (c + 1) (s.crash o.keep on) (s.crash o.keep on) b0 wz #[.int .i64 kd, .string N, .string M, .int .i64 on, .slice A bl C, .slice KA kl KC] (.slice va bl vc) bb)) (fun s10 _ => bl - (intOf s10).toNat)
    case atStart => exact ⟨0, o.b, Nat.zero_le _, HBl.out.symm, rfl, HMid4⟩
    case round =>
      obtain ⟨i, bb, hi, hll, rfl, HMd⟩ := hrel
      by_cases hlt : i < bl
      · have i0 : (0 : Int) ≤ (i : Int) := Int.natCast_nonneg _
        have i1 : (i : Int) < (bl : Int) := by omega
        obtain ⟨gx, hgx⟩ : ∃ gx, va = some ⟨gx, 0, none⟩ := by
          rcases HMd.out.row.2 with ⟨hv, h0⟩ | ⟨gx, cap, cur, hv, _⟩
          · omega
          · simp at hv
            exact ⟨gx, hv.1⟩
        subst hgx
        obtain ⟨⟨z, hz⟩, hfz⟩ := row_cell HMd.out.row i (by omega)
        have HLL := Lib.hid hll
        clear hll
        go_wp2
        go_roundw
        case rel =>
          obtain ⟨b, hb⟩ := u8_wrap (z + 1)
          refine ⟨i + 1, bb.set i b, by omega, by rw [List.length_set]; exact HLL.out, by go_num, Lib.hid ?_⟩
          have h := HMd.out.set (j := i) b
          rw [← hb] at h
          first | exact h | (rw [IntKind.wrap_u8] at h; exact h)
        case measure => simp [intOf]; omega
      · clear hll
        have HSame := Lib.hid (mid_same HMd.out)
        go_wp2_with fail
        refine HSame.out.mono ?_
        rintro e w9 ⟨rfl, hdid⟩
        have HDid := Lib.hid hdid
        clear hdid
        go_wp2
        go_ret
        exact ⟨rfl, by first | exact HDid.out | (unfold stepA; simp only; rw [← HOn.out]; exact HDid.out)⟩
  · clear d0 d1 d2 d3 d4 d5 HMid0
    go_wp2
    go_loopw [10] (fun s10 wr => ∃ (i : Nat) (bb : List UInt8), i ≤ bl ∧ bb.length = bl ∧ s10 = .int .i64 i ∧ Hid (Mid w W wr T0 S0 d r (c + 1) (c + 1) (s) (s) b0 wz #[.int .i64 kd, .string N, .string M, .int .i64 on, .slice A bl C, .slice KA kl KC] (.slice va bl vc) bb)) (fun s10 _ => bl - (intOf s10).toNat)
    case atStart => exact ⟨0, o.b, Nat.zero_le _, HBl.out.symm, rfl, HMid1⟩
    case round =>
      obtain ⟨i, bb, hi, hll, rfl, HMd⟩ := hrel
      by_cases hlt : i < bl
      · have i0 : (0 : Int) ≤ (i : Int) := Int.natCast_nonneg _
        have i1 : (i : Int) < (bl : Int) := by omega
        obtain ⟨gx, hgx⟩ : ∃ gx, va = some ⟨gx, 0, none⟩ := by
          rcases HMd.out.row.2 with ⟨hv, h0⟩ | ⟨gx, cap, cur, hv, _⟩
          · omega
          · simp at hv
            exact ⟨gx, hv.1⟩
        subst hgx
        obtain ⟨⟨z, hz⟩, hfz⟩ := row_cell HMd.out.row i (by omega)
        have HLL := Lib.hid hll
        clear hll
        go_wp2
        go_roundw
        case rel =>
          obtain ⟨b, hb⟩ := u8_wrap (z + 1)
          refine ⟨i + 1, bb.set i b, by omega, by rw [List.length_set]; exact HLL.out, by go_num, Lib.hid ?_⟩
          have h := HMd.out.set (j := i) b
          rw [← hb] at h
          first | exact h | (rw [IntKind.wrap_u8] at h; exact h)
        case measure => simp [intOf]; omega
      · clear hll
        have HSame := Lib.hid (mid_same HMd.out)
        go_wp2_with fail
        refine HSame.out.mono ?_
        rintro e w9 ⟨rfl, hdid⟩
        have HDid := Lib.hid hdid
        clear hdid
        go_wp2
        go_ret
        exact ⟨rfl, by first | exact HDid.out | (unfold stepA; simp only; rw [← HOn.out]; exact HDid.out)⟩
end Go.Proofs.Ytabddeoeihlnnaa
