/- Joined: DiskLone, DiskIter, DiskList. -/
import Derived.Test.YthaggdkfaglgaaaGreatDoorJD3
import Derived.Shelf.SlIter.Nil
import Derived.Shelf.SortM.Plain
import Derived.Shelf.SortM.SortNone
import Derived.Ground.GgzProg
import Derived.Ground.SlgmProg
/- A disk of a law's own. -/
namespace Go.Proofs.YthaggdkfaglgaaaGreatDoor
set_option maxRecDepth 20000
open Go.RowKit Go.Maps DiskMath

/-- A disk that was made since the world w. -/
def Lone (w W : World) (d c : Nat) (s : St) : Prop := ∃ T, IsDisk W T d c s ∧ (∀ k, T k → w.heap.size ≤ k) ∧ Below w.heap.size w W

theorem Lone.bel {w W : World} {d c : Nat} {s : St} (h : Lone w W d c s) : Below w.heap.size w W := by
  obtain ⟨_, _, _, h⟩ := h
  exact h

theorem Lone.below {w W W' : World} {d c : Nat} {s : St} (h : Lone w W d c s) (hb : Below W.heap.size W W') : Lone w W' d c s := by
  obtain ⟨T, h1, h2, h3⟩ := h
  exact ⟨T, h1.below hb, h2, h3.trans (hb.mono h3.size)⟩

theorem lone_next {w W W' : World} {T : Nat → Prop} {d c : Nat} {s : St} (h2 : ∀ k, T k → w.heap.size ≤ k) (h3 : Below w.heap.size w W) (hn : Next W T d c s W') : Lone w W' d c s := by
  refine ⟨_, hn.disk, fun k hk => ?_, ⟨hn.only.os.trans h3.os, hn.only.tape.trans h3.tape, hn.only.output.trans h3.output, Nat.le_trans h3.size hn.only.size, fun k hk => ?_⟩⟩
  · rcases hk with h | h
    · exact h2 k h
    · exact Nat.le_trans h3.size h.1
  · rw [hn.only.block k (Nat.lt_of_lt_of_le hk h3.size) fun hT => by have := h2 k hT; omega]
    exact h3.block k hk

theorem lnew_any (w W : World) (room : Int) (hb : Below w.heap.size w W) : Calls Tryz.prog 27 #[.int .i64 room] W fun e w' => ∃ d, e = .returned (dp d) ∧ Lone w w' d 0 (St.new room) := by
  refine (new_any W room).mono ?_
  rintro e w' ⟨d, rfl, h1, h2⟩
  exact ⟨d, rfl, _, h1, fun k hk => Nat.le_trans hb.size hk.1, hb.trans (h2.mono hb.size)⟩

theorem lwrite_any {w W : World} {d c : Nat} {s : St} (h : Lone w W d c s) {n : Nm} {a : Int} {ab : Option Addr} {lb cb : Nat} {b : List UInt8} (hc : c + 1 ≤ 2000) (hn : n.length ≤ 9223372036854775807) (ha : -9223372036854775808 ≤ a ∧ a ≤ 9223372036854775807)
    (hb : Bys W (.slice ab lb cb) b) (hlb : b.length = lb) (hl : lb ≤ 4194304) :
    Calls Tryz.prog 106 #[dp d, nm n, .int .i64 a, .slice ab lb cb] W fun e w' => e = .returned (.int .i64 ((s.write n a b).1 : Int)) ∧ Lone w w' d (c + 1) (s.write n a b).2 := by
  obtain ⟨T, h1, h2, h3⟩ := h
  exact (write_any h1 hc hn ha hb hlb hl).mono fun e w' h => ⟨h.1, lone_next h2 h3 h.2⟩

theorem lcut_any {w W : World} {d c : Nat} {s : St} (h : Lone w W d c s) {n : Nm} {k : Int} (hc : c + 1 ≤ 2000) (hn : n.length ≤ 9223372036854775807) (hk : -9223372036854775808 ≤ k ∧ k ≤ 9223372036854775807) :
    Calls Tryz.prog 199 #[dp d, nm n, .int .i64 k] W fun e w' => e = .returned (.int .i64 ((s.cut n k).1 : Int)) ∧ Lone w w' d (c + 1) (s.cut n k).2 := by
  obtain ⟨T, h1, h2, h3⟩ := h
  exact (cut_any h1 hc hn hk).mono fun e w' h => ⟨h.1, lone_next h2 h3 h.2⟩

theorem lremove_any {w W : World} {d c : Nat} {s : St} (h : Lone w W d c s) {n : Nm} (hc : c + 1 ≤ 2000) (hn : n.length ≤ 9223372036854775807) :
    Calls Tryz.prog 109 #[dp d, nm n] W fun e w' => e = .returned (.int .i64 ((s.remove n).1 : Int)) ∧ Lone w w' d (c + 1) (s.remove n).2 := by
  obtain ⟨T, h1, h2, h3⟩ := h
  exact (remove_any h1 hc hn).mono fun e w' h => ⟨h.1, lone_next h2 h3 h.2⟩

theorem lrename_any {w W : World} {d c : Nat} {s : St} (h : Lone w W d c s) {n q : Nm} (hc : c + 1 ≤ 2000) (hn : n.length ≤ 9223372036854775807) (hq : q.length ≤ 9223372036854775807) :
    Calls Tryz.prog 111 #[dp d, nm n, nm q] W fun e w' => e = .returned (.int .i64 ((s.rename n q).1 : Int)) ∧ Lone w w' d (c + 1) (s.rename n q).2 := by
  obtain ⟨T, h1, h2, h3⟩ := h
  exact (rename_any h1 hc hn hq).mono fun e w' h => ⟨h.1, lone_next h2 h3 h.2⟩

theorem lsync_any {w W : World} {d c : Nat} {s : St} (h : Lone w W d c s) :
    Calls Tryz.prog 101 #[dp d] W fun e w' => e = .returned (.int .i64 ((s.sync).1 : Int)) ∧ Lone w w' d c (s.sync).2 := by
  obtain ⟨T, h1, h2, h3⟩ := h
  exact (sync_any h1).mono fun e w' h => ⟨h.1, lone_next h2 h3 h.2⟩

theorem lread_any {w W : World} {d c : Nat} {s : St} (h : Lone w W d c s) {n : Nm} (hn : n.length ≤ 9223372036854775807) :
    Calls Tryz.prog 149 #[dp d, nm n] W fun e w' => ∃ v, e = .returned (.tuple #[v, .int .i64 ((s.read n).1 : Int)]) ∧ Row w' W.heap.size v (s.read n).2 ∧ Below W.heap.size W w' ∧ Lone w w' d c s := by
  have h' := h
  obtain ⟨T, h1, h2, h3⟩ := h
  refine (read_any h1 hn).mono ?_
  rintro e w' ⟨v, rfl, q1, q2⟩
  exact ⟨v, rfl, q1, q2, h'.below q2⟩

theorem lused_any {w W : World} {d c : Nat} {s : St} (h : Lone w W d c s) : Calls Tryz.prog 23 #[dp d] W fun e w' => e = .returned (.int .i64 (tot s.now : Int)) ∧ W = w' := by
  obtain ⟨T, h1, h2, h3⟩ := h
  obtain ⟨m1, m2, F1, F2, ws, G, hd, ht⟩ := h1.ex
  exact used_any hd

theorem ldown_any {w W : World} {d c : Nat} {s : St} (h : Lone w W d c s) : Calls Tryz.prog 18 #[dp d] W fun e w' => e = .returned (.bool s.off) ∧ W = w' := by
  obtain ⟨T, h1, h2, h3⟩ := h
  obtain ⟨m1, m2, F1, F2, ws, G, hd, ht⟩ := h1.ex
  exact down_any hd

theorem lroom_any {w W : World} {d c : Nat} {s : St} (h : Lone w W d c s) (x : Int) : Calls Tryz.prog 22 #[dp d, .int .i64 x] W fun e w' => e = .returned (.tuple #[]) ∧ Lone w w' d c { s with room := x } := by
  obtain ⟨T, h1, h2, h3⟩ := h
  exact (room_any h1 x).mono fun e w' h => ⟨h.1, lone_next h2 h3 h.2⟩

theorem lfuse_any {w W : World} {d c : Nat} {s : St} (h : Lone w W d c s) (x : Int) (hx : x ≤ 9223372036854775807) : Calls Tryz.prog 15 #[dp d, .int .i64 x] W fun e w' => e = .returned (.tuple #[]) ∧ Lone w w' d c { s with fuse := max x (-1) } := by
  obtain ⟨T, h1, h2, h3⟩ := h
  exact (fuse_any h1 x hx).mono fun e w' h => ⟨h.1, lone_next h2 h3 h.2⟩

theorem lcrash_any {w W : World} {d c : Nat} {s : St} (h : Lone w W d c s) {ka : Option Addr} {nk ck : Nat} {ks : List Bool} {torn : Int} (hk : Bls W (.slice ka nk ck) ks) (hnk : ks.length = nk) (hnk2 : nk ≤ 9223372036854775807) :
    Calls Tryz.prog 16 #[dp d, .slice ka nk ck, .int .i64 torn] W fun e w' => e = .returned (.tuple #[]) ∧ Lone w w' d c (s.crash ks torn) := by
  obtain ⟨T, h1, h2, h3⟩ := h
  exact (crash_any h1 hk hnk hnk2).mono fun e w' h => ⟨h.1, lone_next h2 h3 h.2⟩
end Go.Proofs.YthaggdkfaglgaaaGreatDoor

/- What a map's keys, sorted, are: the contracts of the library at this program (laid with its own tools, in plain words). The numbers are this program's. -/
namespace Go.Proofs.YthaggdkfaglgaaaGreatDoor
set_option maxRecDepth 20000
open Go.RowKit Go.Maps Go.Sort Go.Shelf

def Lay.keys_ren : Go.Shelf.Ren := ⟨fun | 7 => 177 | 10 => 203 | n => n, fun | 23 => 93 | 26 => 9 | 3 => 27 | 28 => 220 | 0 => 0 | 27 => 219 | 33 => 57 | 4 => 4 | n => n, fun | n => n⟩
theorem Lay.keys : Go.Proofs.SlLaysZ.n7 Tryz.prog Lay.keys_ren := {
  mixed := by kernel_rfl
  f7 := ⟨Tryz.f177.name, by decide, Tryz.func177.trans (congrArg some (by kernel_rfl))⟩
  f10 := ⟨Tryz.f203.name, by decide, Tryz.func203.trans (congrArg some (by kernel_rfl))⟩
  t0 := Tryz.underlying0
  a0 := Tryz.isAgg0
  z0 := Tryz.sizeOf0
  v0 := Tryz.zeroValue0
  t4 := Tryz.underlying4
  a4 := Tryz.isAgg4
  z4 := Tryz.sizeOf4
  v4 := Tryz.zeroValue4
  t23 := Tryz.underlying93
  a23 := Tryz.isAgg93
  z23 := Tryz.sizeOf93
  v23 := Tryz.zeroValue93
  t26 := Tryz.underlying9
  a26 := Tryz.isAgg9
  z26 := Tryz.sizeOf9
  v26 := Tryz.zeroValue9
  t27 := Tryz.underlying219
  a27 := Tryz.isAgg219
  z27 := Tryz.sizeOf219
  v27 := Tryz.zeroValue219
  t28 := Tryz.underlying220
  a28 := Tryz.isAgg220
  z28 := Tryz.sizeOf220
  v28 := Tryz.zeroValue220
  t33 := Tryz.underlying57
  a33 := Tryz.isAgg57
  z33 := Tryz.sizeOf57
  v33 := Tryz.zeroValue57 }
def Lay.sorted_ren : Go.Shelf.Ren := ⟨fun | 6 => 176 | 8 => 201 | 9 => 202 | 11 => 215 | 13 => 217 | 12 => 216 | 23 => 237 | 24 => 173 | 14 => 228 | 15 => 229 | 16 => 230 | 17 => 231 | 18 => 232 | 19 => 233 | 20 => 234 | 21 => 235 | 22 => 236 | 25 => 243 | 26 => 244 | 27 => 245 | 28 => 246 | 29 => 247 | 30 => 248 | 31 => 250 | n => n, fun | 26 => 9 | 28 => 220 | 24 => 189 | 0 => 0 | 3 => 3 | 37 => 42 | 48 => 229 | 50 => 32 | 4 => 4 | 40 => 268 | 39 => 267 | 45 => 272 | 5 => 5 | 9 => 9 | 51 => 279 | 55 => 282 | 57 => 290 | 58 => 291 | 33 => 57 | n => n, fun | n => n⟩
theorem Lay.sorted : Go.Proofs.SlLaysZ.n6 Tryz.prog Lay.sorted_ren := {
  mixed := by kernel_rfl
  f6 := ⟨Tryz.f176.name, by decide, Tryz.func176.trans (congrArg some (by kernel_rfl))⟩
  f8 := ⟨Tryz.f201.name, by decide, Tryz.func201.trans (congrArg some (by kernel_rfl))⟩
  f11 := ⟨Tryz.f215.name, by decide, Tryz.func215.trans (congrArg some (by kernel_rfl))⟩
  t0 := Tryz.underlying0
  a0 := Tryz.isAgg0
  z0 := Tryz.sizeOf0
  v0 := Tryz.zeroValue0
  t24 := Tryz.underlying189
  a24 := Tryz.isAgg189
  z24 := Tryz.sizeOf189
  v24 := Tryz.zeroValue189
  t26 := Tryz.underlying9
  a26 := Tryz.isAgg9
  z26 := Tryz.sizeOf9
  v26 := Tryz.zeroValue9
  t28 := Tryz.underlying220
  a28 := Tryz.isAgg220
  z28 := Tryz.sizeOf220
  v28 := Tryz.zeroValue220
  i26 := by kernel_rfl }
def Lay.sort_ren : Go.Shelf.Ren := ⟨fun | 6 => 202 | 8 => 217 | 9 => 216 | 19 => 237 | 20 => 173 | 21 => 228 | 22 => 229 | 23 => 230 | 24 => 231 | 25 => 232 | 26 => 233 | 27 => 234 | 28 => 235 | 29 => 236 | 36 => 243 | 31 => 244 | 32 => 245 | 37 => 246 | 38 => 247 | 39 => 248 | 41 => 250 | n => n, fun | 27 => 189 | 29 => 9 | 3 => 3 | 32 => 42 | 26 => 189 | 0 => 0 | 44 => 229 | 46 => 32 | 4 => 4 | 36 => 268 | 35 => 267 | 41 => 272 | 5 => 5 | 9 => 9 | 53 => 279 | 57 => 282 | 63 => 290 | 64 => 291 | n => n, fun | n => n⟩
theorem Lay.sort : Go.Proofs.SlLaysM.n6 Tryz.prog Lay.sort_ren := {
  mixed := by kernel_rfl
  f6 := ⟨Tryz.f202.name, by decide, Tryz.func202.trans (congrArg some (by kernel_rfl))⟩
  f8 := Tryz.func217.trans (congrArg some (by kernel_rfl))
  f9 := ⟨Tryz.f216.name, by decide, Tryz.func216.trans (congrArg some (by kernel_rfl))⟩
  f19 := Tryz.func237.trans (congrArg some (by kernel_rfl))
  f20 := Tryz.func173.trans (congrArg some (by kernel_rfl))
  f21 := ⟨Tryz.f228.name, by decide, Tryz.func228.trans (congrArg some (by kernel_rfl))⟩
  f22 := ⟨Tryz.f229.name, by decide, Tryz.func229.trans (congrArg some (by kernel_rfl))⟩
  f23 := ⟨Tryz.f230.name, by decide, Tryz.func230.trans (congrArg some (by kernel_rfl))⟩
  f24 := ⟨Tryz.f231.name, by decide, Tryz.func231.trans (congrArg some (by kernel_rfl))⟩
  f25 := ⟨Tryz.f232.name, by decide, Tryz.func232.trans (congrArg some (by kernel_rfl))⟩
  f26 := ⟨Tryz.f233.name, by decide, Tryz.func233.trans (congrArg some (by kernel_rfl))⟩
  f27 := ⟨Tryz.f234.name, by decide, Tryz.func234.trans (congrArg some (by kernel_rfl))⟩
  f28 := ⟨Tryz.f235.name, by decide, Tryz.func235.trans (congrArg some (by kernel_rfl))⟩
  f29 := ⟨Tryz.f236.name, by decide, Tryz.func236.trans (congrArg some (by kernel_rfl))⟩
  f31 := Tryz.func244.trans (congrArg some (by kernel_rfl))
  f32 := Tryz.func245.trans (congrArg some (by kernel_rfl))
  f36 := ⟨Tryz.f243.name, by decide, Tryz.func243.trans (congrArg some (by kernel_rfl))⟩
  f37 := ⟨Tryz.f246.name, by decide, Tryz.func246.trans (congrArg some (by kernel_rfl))⟩
  f38 := ⟨Tryz.f247.name, by decide, Tryz.func247.trans (congrArg some (by kernel_rfl))⟩
  f39 := ⟨Tryz.f248.name, by decide, Tryz.func248.trans (congrArg some (by kernel_rfl))⟩
  f41 := ⟨Tryz.f250.name, by decide, Tryz.func250.trans (congrArg some (by kernel_rfl))⟩
  t0 := Tryz.underlying0
  a0 := Tryz.isAgg0
  z0 := Tryz.sizeOf0
  v0 := Tryz.zeroValue0
  t3 := Tryz.underlying3
  a3 := Tryz.isAgg3
  z3 := Tryz.sizeOf3
  v3 := Tryz.zeroValue3
  t4 := Tryz.underlying4
  a4 := Tryz.isAgg4
  z4 := Tryz.sizeOf4
  v4 := Tryz.zeroValue4
  t5 := Tryz.underlying5
  a5 := Tryz.isAgg5
  z5 := Tryz.sizeOf5
  v5 := Tryz.zeroValue5
  t9 := Tryz.underlying9
  a9 := Tryz.isAgg9
  z9 := Tryz.sizeOf9
  v9 := Tryz.zeroValue9
  t26 := Tryz.underlying189
  a26 := Tryz.isAgg189
  z26 := Tryz.sizeOf189
  v26 := Tryz.zeroValue189
  t27 := Tryz.underlying189
  a27 := Tryz.isAgg189
  z27 := Tryz.sizeOf189
  v27 := Tryz.zeroValue189
  t29 := Tryz.underlying9
  a29 := Tryz.isAgg9
  z29 := Tryz.sizeOf9
  v29 := Tryz.zeroValue9
  t32 := Tryz.underlying42
  a32 := Tryz.isAgg42
  z32 := Tryz.sizeOf42
  v32 := Tryz.zeroValue42
  t35 := Tryz.underlying267
  a35 := Tryz.isAgg267
  z35 := Tryz.sizeOf267
  v35 := Tryz.zeroValue267
  t36 := Tryz.underlying268
  a36 := Tryz.isAgg268
  z36 := Tryz.sizeOf268
  v36 := Tryz.zeroValue268
  t41 := Tryz.underlying272
  a41 := Tryz.isAgg272
  z41 := Tryz.sizeOf272
  v41 := Tryz.zeroValue272
  t44 := Tryz.underlying229
  a44 := Tryz.isAgg229
  z44 := Tryz.sizeOf229
  v44 := Tryz.zeroValue229
  t46 := Tryz.underlying32
  a46 := Tryz.isAgg32
  z46 := Tryz.sizeOf32
  v46 := Tryz.zeroValue32
  t53 := Tryz.underlying279
  a53 := Tryz.isAgg279
  z53 := Tryz.sizeOf279
  v53 := Tryz.zeroValue279
  t57 := Tryz.underlying282
  a57 := Tryz.isAgg282
  z57 := Tryz.sizeOf282
  v57 := Tryz.zeroValue282
  t63 := Tryz.underlying290
  a63 := Tryz.isAgg290
  z63 := Tryz.sizeOf290
  v63 := Tryz.zeroValue290
  t64 := Tryz.underlying291
  a64 := Tryz.isAgg291
  z64 := Tryz.sizeOf291
  v64 := Tryz.zeroValue291 }

theorem Lay.sorts (m : Nat) : AnyZ.SortsIn Tryz.prog Lay.sorted_ren Fence.wide m :=
  ⟨fun blk off cap ss W hH hblk hsz => callsIn_wide.2 (AnyM.slices_Sort_string Lay.sort blk off cap ss W hH hblk hsz),
   fun p cap W => callsIn_wide.2 (AnyM.slices_Sort_string_none Lay.sort p cap W)⟩

theorem maps_keys (mb : Option Nat) (W : World) : CallsIn Fence.wide 5 Tryz.prog 177 #[.map mb] W fun e w' => e = .returned (.func (.func 203) #[] #[.pointer (some ⟨W.heap.size, 0, none⟩)]) ∧ w' = W.alloc (.cells #[.map mb] 93) :=
  AnyZ.keys_in Lay.keys Fence.wide 5 trivial rfl mb W

set_option maxHeartbeats 1000000 in
theorem sorted_keys {H : Type} (b nn : Nat) (D0 : DataW H) (R : Value → Option (DataW H × List MemPlace)) (w : World) (hown : w.ownsMap Tryz.prog 9 R b nn D0) (hmax : Maps.size D0 ≤ maxLen) (hbytes : Maps.size D0 * 16 ≤ 140737488355328) :
    CallsIn Fence.wide 5 Tryz.prog 176 #[.func (.func 203) #[] #[.pointer (some ⟨w.heap.size, 0, none⟩)]] (w.alloc (.cells #[.map (some b)] 93)) fun e w' => ∃ (v : Value) (ss : List (List UInt8)), e = .returned v ∧ ss.Perm (strKeys D0) ∧
      w'.ownsRow (w.alloc (.cells #[.map (some b)] 93)).heap.size 9 1 v ss.length ((ss.mergeSort (fun x y => decide (x ≤ y))).map encStr) ∧ (v = .slice none 0 0 ↔ ss = []) ∧ Below (w.alloc (.cells #[.map (some b)] 93)).heap.size (w.alloc (.cells #[.map (some b)] 93)) w' := by
  have hbl := hown.lt
  have hseq : SeqGives Fence.wide 2 Tryz.prog 203 #[.pointer (some ⟨w.heap.size, 0, none⟩)] encStr (fun ss => ss.Perm (strKeys D0)) (Maps.size D0) (w.alloc (.cells #[.map (some b)] 93)) :=
    AnyZ.keys_gives (ρ := Lay.keys_ren) { Lay.keys with } Fence.wide _ trivial rfl (by omega) w.heap.size b nn D0 _ (by simp) (by simp) (by
      obtain ⟨es, clock, hb, Ft, hs, hD⟩ := hown
      exact ⟨es, clock, (Below.heap_alloc _ _ b hbl).trans hb, Ft, hs, hD⟩)
  exact AnyZ.sorted_in Lay.sorted Fence.wide 5 trivial trivial trivial trivial rfl (by omega) (Lay.sorts _) (enters_of Tryz.func202 (by kernel_rfl) rfl) 203 #[.pointer (some ⟨w.heap.size, 0, none⟩)] trivial (enters_of Tryz.func203 (by kernel_rfl) rfl) _ _ hmax hbytes _ hseq


end Go.Proofs.YthaggdkfaglgaaaGreatDoor

/- List: the files' names, in their order. -/
namespace Go.Proofs.YthaggdkfaglgaaaGreatDoor
set_option maxRecDepth 20000
open Go.RowKit Go.Maps Go.Sort Go.Shelf DiskMath

theorem before_lt : ∀ (x y : List UInt8), bytesBefore x y = decide (x < y)
  | [], [] => by simp [bytesBefore]
  | _ :: _, [] => by simp [bytesBefore]
  | [], _ :: _ => by simp [bytesBefore]
  | a :: x, b :: y => by
    rw [bytesBefore, before_lt x y]
    simp only [List.cons_lt_cons_iff]
    by_cases h1 : a < b <;> by_cases h2 : a = b <;> by_cases h3 : x < y <;> simp [h1, h2, h3]

theorem enc_nm (x : List UInt8) : Go.Proofs.encStr x = nm x := rfl

theorem keys_enc (F : Gf) : strKeys (encD F) = F.map (·.1) := by
  unfold encD strKeys
  simp [strOf]

theorem names_sorted {F : Gf} (h : Rise F) {ss : List (List UInt8)} (hp : ss.Perm (strKeys (encD F))) : ss.mergeSort (fun x y => decide (x ≤ y)) = F.map (·.1) := by
  rw [keys_enc] at hp
  have e := mergeSort_of_perm hp
  show ss.mergeSort leB = _
  rw [e]
  refine List.mergeSort_of_pairwise ?_
  rw [List.pairwise_map]
  refine h.imp fun {a b} hab => ?_
  rw [before_lt] at hab
  simp only [decide_eq_true_eq] at hab
  simp only [leB, decide_eq_true_eq]
  exact List.le_of_lt hab

/-- A list of names. -/
def Nms (w : World) (B : Nat) (v : Value) (l : List Nm) : Prop := w.ownsRow B 9 1 v l.length (l.map nm)

set_option maxHeartbeats 1000000 in
theorem list_any {w : World} {T : Nat → Prop} {d c : Nat} {s : St} (h : IsDisk w T d c s) :
    Calls Tryz.prog 147 #[dp d] w fun e w' => ∃ v, e = .returned v ∧ Nms w' w.heap.size v (s.now.map (·.1)) ∧ Below w.heap.size w w' := by
  obtain ⟨m1, m2, F1, F2, ws, G, hd, ht⟩ := h.ex
  have c3 : w.cell? ⟨d, 3, none⟩ = some (.map (some m1)) := by rw [hd.cells]; rfl
  have c30 : w.cell? ((⟨d, 3, none⟩ : Addr).add 0) = some (.map (some m1)) := c3
  have hown := hd.k1.map
  have hlen : F1.length ≤ 2000 := by
    have h1 := hd.ok.fewN
    rw [← hd.p1, pr_length] at h1
    exact Nat.le_trans h1 hd.small
  have hmax : Maps.size (encD F1) ≤ maxLen := by rw [encD_size]; unfold maxLen; omega
  have hbytes : Maps.size (encD F1) * 16 ≤ 140737488355328 := by rw [encD_size]; omega
  have hrise : Rise F1 := hd.k1.rise
  have hnow : s.now.map (·.1) = F1.map (·.1) := by rw [← hd.p1]; simp [pr]
  rw [hnow]
  have HW := Lib.hid hown
  have HR := Lib.hid hrise
  clear hd ht hlen hnow h hown hrise
  refine (callsIn_wide (n := 6)).1 ?_
  have hfK : Fence.wide.fn 177 := trivial
  have hfS : Fence.wide.fn 176 := trivial
  refine callsIn_of_wp Tryz.func147 rfl trivial ?_ rfl
  simp only [Tryz.ntmps147, List.size_toArray, List.length_cons, List.length_nil, Nat.reduceAdd, Nat.reduceSub, Array.replicate_succ, Array.replicate_zero, List.push_toArray, List.append_toArray, List.nil_append, List.cons_append]
  gi_wp2_with (first
    | (gi_at_call 177; refine (maps_keys _ _).mono ?_; rintro e w' ⟨rfl, rfl⟩)
    | (gi_at_call 176; refine (sorted_keys m1 _ (encD F1) tokR w HW.out hmax hbytes).mono ?_; rintro e w' ⟨v, ss, rfl, hS, hrow, hnil, hb⟩))
  rw [names_sorted HR.out hS] at hrow
  have hss : ss.length = (F1.map (·.1)).length := by rw [hS.length_eq, keys_enc]
  have HRow := Lib.hid hrow
  have HB := Lib.hid hb
  clear hrow hb hS hnil
  go_ret
  refine ⟨v, rfl, ?_, ((Below.refl _ w).alloc (Nat.le_refl _) _).trans (HB.out.mono (by simp))⟩
  unfold Nms
  rw [← hss]
  exact ownsRow_base_a HRow.out (by simp)
end Go.Proofs.YthaggdkfaglgaaaGreatDoor

