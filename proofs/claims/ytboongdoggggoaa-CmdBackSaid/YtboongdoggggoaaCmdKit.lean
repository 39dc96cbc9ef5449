/- Layer 12's entries in memory: slices of numbers, the six fields, entries that are handed over. -/
import Derived.Test.YtboongdoggggoaaBaseLast
import Derived.Test.YtboongdoggggoaaCmdMath
import Derived.BigQuiet
import Derived.JoinedCond
import Derived.Deep.QuietTactic
namespace Go.Proofs.Ytboongdoggggoaa
set_option maxRecDepth 20000
open Go.RowKit BinMath CmdMath

theorem ownsRow_to {w w' : World} {B e s : Nat} {v : Value} {n : Nat} {xs : List Value} (h : w.ownsRow B e s v n xs) (hk : ∀ k, v.ownBlock = some k → w'.heap[k]? = w.heap[k]?) : w'.ownsRow B e s v n xs := by
  obtain ⟨h1, h2⟩ := h
  refine ⟨h1, h2.elim .inl fun ⟨g, cap, cur, hv, hB, hg, r⟩ => .inr ⟨g, cap, cur, hv, hB, ?_, r⟩⟩
  rw [hk g (by rw [hv]; rfl)]
  exact hg

theorem ownsRow_keep {w w' : World} {B e s : Nat} {v : Value} {n : Nat} {xs : List Value} (h : w.ownsRow B e s v n xs) (hb : Below w.heap.size w w') : w'.ownsRow B e s v n xs :=
  ownsRow_to h fun k hk => hb.block k (World.ownsRow.lt h k hk).2

/-- A row and a block of another type are apart. -/
theorem ownsRow_apart {w : World} {B e s g t : Nat} {v : Value} {n : Nat} {xs : List Value} {cs : Array Value} (h : w.ownsRow B e s v n xs) (hg : Blk w g t cs) (hne : e ≠ t) : v.ownBlock ≠ some g := by
  rcases h.2 with ⟨rfl, _⟩ | ⟨k, cap, cur, rfl, hB, hk, _⟩
  · simp [Value.ownBlock]
  · simp only [Value.ownBlock]
    intro he
    obtain rfl : k = g := by simpa using he
    unfold Blk at hg
    rw [hg] at hk
    have h := Option.some.inj hk
    injection h with _ h
    exact hne h.symm

theorem Blk.grown {w w' : World} {B e s g t : Nat} {v : Value} {n : Nat} {xs : List Value} {cs : Array Value} (hg : Blk w g t cs) (h : w.ownsRow B e s v n xs) (hne : e ≠ t) (hgr : w.grownBy w' v.ownBlock) : Blk w' g t cs := by
  have h1 := ownsRow_apart h hg hne
  have hlt := hg.lt
  unfold Blk at *
  rw [hgr.block g hlt (fun e => h1 e.symm)]
  exact hg

/-- A number as a cell holds it. -/
def uv (n : Nat) : Value := .int .u64 (n : Int)

theorem info_num : (Try.prog.info? 33).map (fun i => (i.zero, i.size, i.bytes)) = some (some (.int .u64 0), 1, 8) := by kernel_rfl

/-- A slice of numbers, wherever it lies. -/
def Nums (w : World) (v : Value) (l : List Nat) : Prop :=
  (v = .slice none 0 0 ∧ l = []) ∨
  ∃ ad cap, v = .slice (some ad) l.length cap ∧ l.length ≤ cap ∧ ∀ i (h : i < l.length), w.cell? (ad.add i) = some (.int .u64 (l[i] : Int))

/-- A slice of numbers of the call's own, from block B on. -/
def NRow (w : World) (B : Nat) (v : Value) (l : List Nat) : Prop := w.ownsRow B 33 1 v l.length (l.map uv)

theorem Nums.below {w w' : World} {v : Value} {l : List Nat} (h : Nums w v l) {B : Nat} (hB : w.heap.size ≤ B) (hb : Below B w w') : Nums w' v l := by
  rcases h with h | ⟨ad, cap, hv, hl, hc⟩
  · exact .inl h
  · exact .inr ⟨ad, cap, hv, hl, fun i hi => by
      have h1 := hc i hi
      rw [hb.cell (p := ad.add i) (Nat.lt_of_lt_of_le (World.block_lt_of_cell? w _ h1) hB)]
      exact h1⟩

theorem NRow.nums {w : World} {B : Nat} {v : Value} {l : List Nat} (h : NRow w B v l) : Nums w v l := by
  have h0 := h
  rcases h.2 with ⟨rfl, hl⟩ | ⟨g, cap, cur, rfl, hB, hg, hn, hm, hs, ht⟩
  · exact .inl ⟨rfl, List.eq_nil_of_length_eq_zero hl⟩
  · refine .inr ⟨⟨g, 0, none⟩, cap, rfl, hn, fun i hi => ?_⟩
    rw [addr_add, Nat.zero_add, World.ownsRow.cellAt h0 i (by omega)]
    simp [uv, hi]

theorem Nums.shape {w : World} {v : Value} {l : List Nat} (h : Nums w v l) : ∃ a cap, v = .slice a l.length cap := by
  rcases h with ⟨rfl, rfl⟩ | ⟨ad, cap, rfl, _⟩
  · exact ⟨_, _, rfl⟩
  · exact ⟨_, _, rfl⟩

theorem Bys.shape {w : World} {v : Value} {l : List UInt8} (h : Bys w v l) : ∃ a cap, v = .slice a l.length cap := by
  rcases h with ⟨rfl, rfl⟩ | ⟨ad, cap, rfl, _⟩
  · exact ⟨_, _, rfl⟩
  · exact ⟨_, _, rfl⟩

theorem Nums.at {w : World} {a : Option Addr} {n cap : Nat} {l : List Nat} (h : Nums w (.slice a n cap) l) : n = l.length ∧ l.length ≤ cap ∧ ∀ i (h : i < l.length), ∃ ad, a = some ad ∧ w.cell? (ad.add i) = some (.int .u64 (l[i] : Int)) := by
  rcases h with ⟨h, rfl⟩ | ⟨ad, c, h, hl, hc⟩
  · cases h; exact ⟨rfl, by simp, fun i hi => by simp at hi⟩
  · cases h; exact ⟨rfl, hl, fun i hi => ⟨ad, rfl, hc i hi⟩⟩

theorem nums_of (zs : List Int) (h : ∀ n ∈ zs, (Lit.int .u64 n).wf = true) : ∃ l : List Nat, zs = l.map (fun c : Nat => (c : Int)) ∧ ∀ x ∈ l, x < 18446744073709551616 := by
  induction zs with
  | nil => exact ⟨[], rfl, by simp⟩
  | cons z zs ih =>
    obtain ⟨l, hl, hb⟩ := ih fun n hn => h n (List.mem_cons_of_mem _ hn)
    have hz := bounds_u64 (h z (by simp))
    refine ⟨z.toNat :: l, ?_, ?_⟩
    · simp [← hl]; omega
    · intro x hx
      rcases List.mem_cons.1 hx with rfl | hx
      · omega
      · exact hb x hx

/-- What came in. -/
theorem IsRow.nums {w : World} {a : Option Addr} {len cap : Nat} {zs : List Int} (h : IsRow .u64 w a len cap zs) : ∃ l : List Nat, l.length = len ∧ (∀ x ∈ l, x < 18446744073709551616) ∧ Nums w (.slice a len cap) l := by
  rcases h with ⟨rfl, rfl, rfl, rfl⟩ | ⟨ad, rfl, hl, hm, hz, hc, hw⟩
  · exact ⟨[], rfl, by simp, .inl ⟨rfl, rfl⟩⟩
  · obtain ⟨l, rfl, hb⟩ := nums_of zs hw
    have hll : l.length = cap := by simpa using hz
    have e : (l.take len).length = len := by rw [List.length_take]; omega
    refine ⟨l.take len, e, fun x hx => hb x (List.mem_of_mem_take hx), .inr ⟨ad, cap, by rw [e], by omega, fun i hi => ?_⟩⟩
    have hi' : i < l.length := by rw [e] at hi; omega
    rw [hc i (by simpa using hi')]
    simp [hi']

/-- The six fields. -/
def entC (e : Ent) (a : Option Addr) (ca : Nat) (b : Option Addr) (cb : Nat) : Array Value :=
  #[.int .u64 (e.t : Int), .int .i64 e.k, .int .u64 (e.c : Int), .int .u64 (e.s : Int), .slice a e.d.length ca, .slice b e.m.length cb]

/-- What an entry's fields lead to, and their ranges. -/
structure Has (w : World) (e : Ent) (a : Option Addr) (ca : Nat) (b : Option Addr) (cb : Nat) : Prop where
  ok : e.Ok
  d : Bys w (.slice a e.d.length ca) e.d
  m : Nums w (.slice b e.m.length cb) e.m
  dl : e.d.length ≤ 140737488351232
  ml : e.m.length ≤ 140737488351232

theorem Has.below {w w' : World} {e : Ent} {a b : Option Addr} {ca cb : Nat} (h : Has w e a ca b cb) {B : Nat} (hB : w.heap.size ≤ B) (hb : Below B w w') : Has w' e a ca b cb :=
  ⟨h.ok, h.d.below hB hb, h.m.below hB hb, h.dl, h.ml⟩

theorem Has.zero (w : World) : Has w Ent.zero none 0 none 0 := ⟨Ent.Ok.zero, .inl ⟨rfl, rfl⟩, .inl ⟨rfl, rfl⟩, by decide, by decide⟩

theorem isTerm_any (n : Nat) (w : World) (hn : n < 18446744073709551616) : Calls Try.prog 92 #[.int .u64 (n : Int)] w fun e w' => e = .returned (.bool (decide (1 ≤ n ∧ n ≤ 4611686018427387904))) ∧ w' = w := by
  by_cases h1 : 1 ≤ n
  · go_enter Try.func92, Try.ntmps92
    go_wp2
    go_ret
    exact ⟨congrArg (fun b => Ending.returned (Value.bool b)) (decide_eq_decide.2 (by omega)), rfl⟩
  · have e : decide (1 ≤ n ∧ n ≤ 4611686018427387904) = false := by simp [h1]
    rw [e]
    go_enter Try.func92, Try.ntmps92
    go_wp2
    go_ret
    exact ⟨rfl, rfl⟩

theorem isCount_any (n : Nat) (w : World) (hn : n < 18446744073709551616) : Calls Try.prog 111 #[.int .u64 (n : Int)] w fun e w' => e = .returned (.bool (decide (1 ≤ n ∧ n ≤ 7))) ∧ w' = w := by
  by_cases h1 : 1 ≤ n
  · go_enter Try.func111, Try.ntmps111
    go_wp2
    go_ret
    exact ⟨congrArg (fun b => Ending.returned (Value.bool b)) (decide_eq_decide.2 (by omega)), rfl⟩
  · have e : decide (1 ≤ n ∧ n ≤ 7) = false := by simp [h1]
    rw [e]
    go_enter Try.func111, Try.ntmps111
    go_wp2
    go_ret
    exact ⟨rfl, rfl⟩

theorem isNext_any (a n : Nat) (w : World) (hn : n < 18446744073709551616) : Calls Try.prog 112 #[.int .u64 (a : Int), .int .u64 (n : Int)] w fun e w' => e = .returned (.bool (decide (a < n ∧ n ≤ 7))) ∧ w' = w := by
  by_cases h1 : a < n
  · go_enter Try.func112, Try.ntmps112
    go_wp2
    go_ret
    exact ⟨congrArg (fun b => Ending.returned (Value.bool b)) (decide_eq_decide.2 (by omega)), rfl⟩
  · have e : decide (a < n ∧ n ≤ 7) = false := by simp [h1]
    rw [e]
    go_enter Try.func112, Try.ntmps112
    go_wp2
    go_ret
    exact ⟨rfl, rfl⟩

theorem conv_len (k : Nat) (hk : k < 9223372036854775808) (W : World) : (convert 3 33 (.int .i64 (k : Int))).run Try.prog W = .ok (.int .u64 (k : Int)) W := by
  have hp : Try.prog.intKind 33 = .u64 := by kernel_rfl
  have h := run_convert_int (P := Try.prog) W 3 33 .i64 (k : Int) (by kernel_rfl) (by rw [hp]; exact Try.underlying33)
  rw [hp] at h
  rw [h, IntKind.wrap_u64]
  congr 2
  omega

end Go.Proofs.Ytboongdoggggoaa
