/- Joined: MsgFree, NetSpec, MsgEnds, NetIs, NetAdd, NetDelete, NetDel. -/
import Derived.Test.YtgbhfolbkgibfaaLAO
import Derived.Test.YtgbhfolbkgibfaaLAB
import Derived.Test.YtgbhfolbkgibfaaCmdPutL
import Derived.Test.YtgbhfolbkgibfaaNetMapL
import Derived.Test.YtgbhfolbkgibfaaCmdEntryL
import Derived.Laws.OwnMore
import Derived.Maps.AppendAt
import Derived.Test.YtgbhfolbkgibfaaLAI
import Derived.Lib.SliceRun
import Derived.BigQuiet
import Derived.Deep.QuietTactic
/- What a slice leads to isn't frozen: it may be written. -/
namespace Go.Proofs.Ytgbhfolbkgibfaa
set_option maxRecDepth 20000
open Go.RowKit BinMath CmdMath
open MsgMath (Mg)

/-- n cells from a on aren't frozen. -/
def FreeA (W : World) (a : Option Addr) (n : Nat) : Prop := ∀ ad, a = some ad → ∀ i, i < n → W.frozen? (ad.add i) = false
/-- The n cells that a slice leads to aren't frozen (said only where F). -/
def Free (F : Prop) (W : World) (v : Value) (n : Nat) : Prop := F → ∀ a k c, v = .slice a k c → FreeA W a n
theorem freeA_none (W : World) (n : Nat) : FreeA W none n := fun ad e => by cases e
theorem freeA_blk {W : World} {g : Nat} {t : TypeId} {cs : Array Value} (h : Blk W g t cs) (n : Nat) : FreeA W (some ⟨g, 0, none⟩) n := fun ad e i _ => by
  cases e
  rw [addr_add, Nat.zero_add]
  exact h.frozen i
theorem freeA_row {W : World} {B e s n q : Nat} {a : Option Addr} {k c : Nat} {xs : List Value} (h : W.ownsRow B e s (.slice a k c) q xs) : FreeA W a n := fun ad he i _ => by
  subst he
  rcases h.2 with ⟨h1, -⟩ | ⟨g, cap, cur, h1, -, hg, -⟩
  · cases h1
  · cases h1
    rw [addr_add, Nat.zero_add]
    exact Blk.frozen (show Blk W g e cur from hg) i
theorem free_of {F : Prop} {W : World} {a : Option Addr} {k c n : Nat} (h : FreeA W a n) : Free F W (.slice a k c) n := fun _ a' k' c' e => by cases e; exact h
theorem Free.at_ {W : World} {a : Option Addr} {k c n : Nat} {F : Prop} (h : Free F W (.slice a k c) n) (hF : F) : FreeA W a n := h hF a k c rfl

/-- What a message leads to isn't frozen. -/
def MFree (W : World) (m : Mg) (ve vm vg : Value) (us : List EE) : Prop := Free True W ve (us.length * 6) ∧ Free True W vm m.m.length ∧ Free True W vg m.g.length ∧ ∀ u ∈ us, FreeA W u.a u.e.d.length ∧ FreeA W u.b u.e.m.length
theorem free_nil (F : Prop) (W : World) (n : Nat) : Free F W (.slice none 0 0) n := free_of (freeA_none W n)
theorem mfree_nil (W : World) (m : Mg) : MFree W m (.slice none 0 0) (.slice none 0 0) (.slice none 0 0) [] := ⟨free_nil _ _ _, free_nil _ _ _, free_nil _ _ _, fun _ hu => absurd hu List.not_mem_nil⟩

/-- .. and both stay as long as no block from B on is written. -/
def MNew (w : World) (B : Nat) (m : Mg) (ve vm vg : Value) (us : List EE) : Prop :=
  ∀ W : World, (∀ k, B ≤ k → k < w.heap.size → W.heap[k]? = w.heap[k]?) → MHas W m ve vm vg us ∧ MFree W m ve vm vg us
theorem MNew.far {w : World} {B : Nat} {m : Mg} {ve vm vg : Value} {us : List EE} (h : MNew w B m ve vm vg us) : MFar w B m ve vm vg us := fun W hW => (h W hW).1
theorem MNew.has {w : World} {B : Nat} {m : Mg} {ve vm vg : Value} {us : List EE} (h : MNew w B m ve vm vg us) : MHas w m ve vm vg us := (h w fun _ _ _ => rfl).1
theorem MNew.to {w w' : World} {B : Nat} {m : Mg} {ve vm vg : Value} {us : List EE} (h : MNew w B m ve vm vg us) (hs : w.heap.size ≤ w'.heap.size) (hk : ∀ k, B ≤ k → k < w.heap.size → w'.heap[k]? = w.heap[k]?) : MNew w' B m ve vm vg us :=
  fun W hW => h W fun k h1 h2 => (hW k h1 (Nat.lt_of_lt_of_le h2 hs)).trans (hk k h1 h2)
theorem MNew.below {w w' : World} {B : Nat} {m : Mg} {ve vm vg : Value} {us : List EE} (h : MNew w B m ve vm vg us) (hb : Below w.heap.size w w') : MNew w' B m ve vm vg us := h.to hb.size fun k _ hk => hb.block k hk
theorem MNew.low {w : World} {B B' : Nat} {m : Mg} {ve vm vg : Value} {us : List EE} (h : MNew w B m ve vm vg us) (hB : B' ≤ B) : MNew w B' m ve vm vg us := fun W hW => h W fun k hk hl => hW k (Nat.le_trans hB hk) hl
theorem MNew.zero (w : World) (B : Nat) : MNew w B Mg.zero (.slice none 0 0) (.slice none 0 0) (.slice none 0 0) [] := fun W _ => ⟨MHas.zero W, mfree_nil _ _⟩
end Go.Proofs.Ytgbhfolbkgibfaa

/- Layer 19: what net's functions are to answer (NetProg). How a net lies in memory is left open: Is. -/
namespace Go.Proofs.Ytgbhfolbkgibfaa
set_option maxRecDepth 20000
open Go.RowKit BinMath NetMath
open MsgMath (Mg)

/-- How a call that may change the net at P ends: r is what it answers, n' what it leaves. -/
def NetEnd (Is : World → Nat → Nt → (Nat → Prop) → Prop) (P : Nat) (U : Nat → Prop) (n' : Nt) (w : World) (p : Ending → World → Prop) (e : Ending) (w' : World) : Prop :=
  p e w' ∧ OnlyS U w w' ∧ ∃ U', Is w' P n' U' ∧ ∀ k, U' k → U k ∨ w.heap.size ≤ k

/-- A message and an error as the answer; what the message leads to lies from the block B on. -/
def mgAns (B : Nat) (m : Mg) (c : Nat) (e : Ending) (w' : World) : Prop := ∃ ve vm vg us, e = .returned (.tuple #[.agg (mgC m ve vm vg), .int .i64 (c : Int)]) ∧ MNew w' B m ve vm vg us

structure NetProg where
  Is : World → Nat → Nt → (Nat → Prop) → Prop
  lt : ∀ {w : World} {P : Nat} {n : Nt} {U : Nat → Prop}, Is w P n U → ∀ k, U k → k < w.heap.size
  keep : ∀ {w w' : World} {P : Nat} {n : Nt} {U V : Nat → Prop}, Is w P n U → OnlyS V w w' → (∀ k, k < w.heap.size → V k → ¬ U k) → Is w' P n U
  new_ : ∀ (w : World), Calls Try.prog 8 #[] w fun e w' => ∃ P U, e = .returned (.pointer (some ⟨P, 0, none⟩)) ∧ Is w' P Nt.none U ∧ Below w.heap.size w w' ∧ ∀ k, U k → w.heap.size ≤ k
  send : ∀ {w : World} {P : Nat} {n : Nt} {U : Nat → Prop} (m : Mg) (ve vm vg : Value) (us : List EE), Is w P n U → MHas w m ve vm vg us → n.W.length ≤ 1000 →
    Calls Try.prog 10 #[.pointer (some ⟨P, 0, none⟩), .agg (mgC m ve vm vg)] w (NetEnd Is P U (n.send m).2 w fun e _ => e = .returned (.int .i64 ((n.send m).1 : Int)))
  len : ∀ {w : World} {P : Nat} {n : Nt} {U : Nat → Prop}, Is w P n U → Calls Try.prog 25 #[.pointer (some ⟨P, 0, none⟩)] w fun e w' => e = .returned (.int .i64 (n.L.length : Int)) ∧ Below w.heap.size w w'
  at_ : ∀ {w : World} {P : Nat} {n : Nt} {U : Nat → Prop} (i : Int), Is w P n U → -9223372036854775808 ≤ i → i < 9223372036854775808 →
    Calls Try.prog 15 #[.pointer (some ⟨P, 0, none⟩), .int .i64 i] w fun e w' => (∃ ve vm vg us, e = .returned (.tuple #[.agg (mgC (n.at_ i).1 ve vm vg), .int .i64 ((n.at_ i).2 : Int)]) ∧ MNew w' w.heap.size (n.at_ i).1 ve vm vg us) ∧ Below w.heap.size w w'
  take : ∀ {w : World} {P : Nat} {n : Nt} {U : Nat → Prop} (i : Int), Is w P n U → -9223372036854775808 ≤ i → i < 9223372036854775808 →
    Calls Try.prog 13 #[.pointer (some ⟨P, 0, none⟩), .int .i64 i] w (NetEnd Is P U (n.take i) w (mgAns w.heap.size (n.at_ i).1 (n.at_ i).2))
  twice : ∀ {w : World} {P : Nat} {n : Nt} {U : Nat → Prop} (i : Int), Is w P n U → -9223372036854775808 ≤ i → i < 9223372036854775808 →
    Calls Try.prog 17 #[.pointer (some ⟨P, 0, none⟩), .int .i64 i] w (NetEnd Is P U (n.twice i).2 w fun e _ => e = .returned (.int .i64 ((n.twice i).1 : Int)))
  block : ∀ {w : World} {P : Nat} {n : Nt} {U : Nat → Prop} (a b : Nat) (yes : Bool), Is w P n U → a < 18446744073709551616 → b < 18446744073709551616 → n.W.length ≤ 1000 →
    Calls Try.prog 19 #[.pointer (some ⟨P, 0, none⟩), .int .u64 (a : Int), .int .u64 (b : Int), .bool yes] w (NetEnd Is P U (n.block a b yes) w fun e _ => e = .returned (.tuple #[]))
  blocked : ∀ {w : World} {P : Nat} {n : Nt} {U : Nat → Prop} (a b : Nat), Is w P n U → a < 18446744073709551616 → b < 18446744073709551616 → n.W.length ≤ 1000 →
    Calls Try.prog 23 #[.pointer (some ⟨P, 0, none⟩), .int .u64 (a : Int), .int .u64 (b : Int)] w fun e w' => e = .returned (.bool (n.blocked a b)) ∧ Below w.heap.size w w'
  nSend : ∀ (m : Mg) (ve vm vg : Value) (us : List EE) (w : World), MHas w m ve vm vg us → Calls Try.prog 10 #[.pointer none, .agg (mgC m ve vm vg)] w fun e w' => e = .returned (.int .i64 6) ∧ Below w.heap.size w w'
  nLen : ∀ (w : World), Calls Try.prog 25 #[.pointer none] w fun e w' => e = .returned (.int .i64 0) ∧ Below w.heap.size w w'
  nAt : ∀ (i : Int) (w : World), Calls Try.prog 15 #[.pointer none, .int .i64 i] w fun e w' => e = .returned (.tuple #[.agg zeroM, .int .i64 9]) ∧ Below w.heap.size w w'
  nTake : ∀ (i : Int) (w : World), Calls Try.prog 13 #[.pointer none, .int .i64 i] w fun e w' => e = .returned (.tuple #[.agg zeroM, .int .i64 9]) ∧ Below w.heap.size w w'
  nTwice : ∀ (i : Int) (w : World), Calls Try.prog 17 #[.pointer none, .int .i64 i] w fun e w' => e = .returned (.int .i64 9) ∧ Below w.heap.size w w'
  nBlock : ∀ (a b : Nat) (yes : Bool) (w : World), Calls Try.prog 19 #[.pointer none, .int .u64 (a : Int), .int .u64 (b : Int), .bool yes] w fun e w' => e = .returned (.tuple #[]) ∧ Below w.heap.size w w'
  nBlocked : ∀ (a b : Nat) (w : World), Calls Try.prog 23 #[.pointer none, .int .u64 (a : Int), .int .u64 (b : Int)] w fun e w' => e = .returned (.bool true) ∧ Below w.heap.size w w'
end Go.Proofs.Ytgbhfolbkgibfaa

/- Layer 18: how Put and Get end, and how long what Put lays is. -/
namespace Go.Proofs.Ytgbhfolbkgibfaa
set_option maxRecDepth 20000
open Go.RowKit BinMath CmdMath
open MsgMath (Mg formedM headOk restOk nodeOk putM getM entsL bodyL flagL)

theorem formedM_facts {m : Mg} (h : formedM m = true) : m.e.length ≤ 4 ∧ m.g.length ≤ 16384 ∧ (∀ x ∈ m.e, formed x = true) ∧ (m.k = 5 → memOk m.m = true) := by
  simp only [formedM, headOk, restOk, nodeOk, termOk, Bool.and_eq_true, decide_eq_true_eq, Bool.or_eq_true, List.all_eq_true] at h
  obtain ⟨-, ⟨-, -, h1, h2⟩, h3, h4⟩ := h
  exact ⟨h1, h2, h3, fun hk => h4.resolve_left fun hn => hn hk⟩

theorem entsL_len : ∀ (es : List Ent), (∀ x ∈ es, x.Ok) → (∀ x ∈ es, formed x = true) → (entsL es).length ≤ 137 * es.length
  | [], _, _ => by simp [entsL]
  | x :: r, h1, h2 => by
    have h3 := entsL_len r (fun y hy => h1 y (by simp [hy])) fun y hy => h2 y (by simp [hy])
    have h4 := MsgMath.putL_len x (h1 x (by simp)) (h2 x (by simp))
    have h5 := numL_le (putL x).length (by omega)
    simp only [entsL, List.length_append, List.length_cons]
    omega
/-- What Put answers: the bytes and the error. -/
def putMR (m : Mg) : List UInt8 × Nat := if formedM m = true then (putM m, 0) else ([], 1)

/-- How Put ends. -/
def MPutEnd (l : List UInt8) (c : Nat) (w : World) (r : Ending) (w' : World) : Prop :=
  ∃ a k, r = .returned (.tuple #[.slice a l.length k, .int .i64 (c : Int)]) ∧ Bys w' (.slice a l.length k) l ∧ l.length ≤ k ∧ Below w.heap.size w w'

/-- .. its bytes in memory that the call made. -/
def MPutOwn (l : List UInt8) (c : Nat) (w : World) (r : Ending) (w' : World) : Prop :=
  ∃ a k, r = .returned (.tuple #[.slice a l.length k, .int .i64 (c : Int)]) ∧ Row w' w.heap.size (.slice a l.length k) l ∧ l.length ≤ k ∧ Below w.heap.size w w'
theorem MPutOwn.end_ {l : List UInt8} {c : Nat} {w w' : World} {r : Ending} (h : MPutOwn l c w r w') : MPutEnd l c w r w' := by
  obtain ⟨a, k, h1, h2, h3, h4⟩ := h
  exact ⟨a, k, h1, h2.bys, h3, h4⟩

/-- .. in memory that may be written. -/
def MGotN (m : Mg) (c : Nat) (w : World) (e : Ending) (w' : World) : Prop :=
  ∃ ve vm vg us, e = .returned (.tuple #[.agg (mgC m ve vm vg), .int .i64 (c : Int)]) ∧ MNew w' w.heap.size m ve vm vg us ∧ Below w.heap.size w w'

/-- Bytes that were put are few. -/
theorem putM_len {m : Mg} (hok : m.Ok) (h : formedM m = true) : 0 < (putM m).length ∧ (putM m).length ≤ 20000 := by
  obtain ⟨h1, h2, h3, h4⟩ := formedM_facts h
  have he := entsL_len m.e hok.e h3
  have n1 := nb_le m.f hok.f
  have n2 := nb_le m.o hok.o
  have n3 := nb_le m.t hok.t
  have n4 := nb_le m.i hok.i
  have n5 := nb_le m.l hok.l
  have n6 := nb_le m.c hok.c
  have n7 := nb_le m.s hok.s
  have n8 := nb_le m.e.length (by omega)
  have n9 := nb_le m.g.length (by omega)
  have hb : (MsgMath.bodyL m).length ≤ 17000 := by
    unfold MsgMath.bodyL
    split
    · simp only [List.length_append, numL_length]; omega
    · split
      · simp
      · split
        · simp only [List.length_append, numL_length]; omega
        · split
          · simp only [List.length_cons, List.length_append, numL_length]; omega
          · split
            · rename_i hk
              have hm := memOk_len (h4 hk)
              have n10 := nb_le m.m.length (by omega)
              have n11 := MsgMath.idsL_len m.m hok.m
              simp only [List.length_append, numL_length]
              omega
            · simp
  rw [putM, List.length_cons, List.length_append, List.length_append, List.length_append, numL_length, numL_length, numL_length]
  omega

end Go.Proofs.Ytgbhfolbkgibfaa

/- Layer 19: how the landed net lies in memory: each message as its bytes, the ways as a map. -/
namespace Go.Proofs.Ytgbhfolbkgibfaa
set_option maxRecDepth 20000
open Go.RowKit Go.Maps BinMath NetMath
open MsgMath (Mg formedM putM getM)

/-- Bytes that are a message's. -/
structure Txt (w : World) (x : Value) (m : Mg) : Prop where
  ok : m.Ok
  formed : formedM m = true
  row : ∃ a c, x = .slice a (putM m).length c ∧ (putM m).length ≤ c ∧ Row w 0 x (putM m)

theorem Txt.to {w w' : World} {x : Value} {m : Mg} (h : Txt w x m) (hk : ∀ k, x.ownBlock = some k → w'.heap[k]? = w.heap[k]?) : Txt w' x m := by
  obtain ⟨a, c, h1, h2, h3⟩ := h.row
  exact ⟨h.ok, h.formed, a, c, h1, h2, ownsRow_to h3 hk⟩
theorem Txt.lt {w : World} {x : Value} {m : Mg} (h : Txt w x m) {k : Nat} (hk : x.ownBlock = some k) : k < w.heap.size := by
  obtain ⟨a, c, h1, h2, h3⟩ := h.row
  exact (World.ownsRow.lt h3 k hk).2
theorem Txt.ne {w : World} {x : Value} {m : Mg} {g : Nat} {t : TypeId} {cs : Array Value} (h : Txt w x m) (hb : Blk w g t cs) (ht : 5 ≠ t) : x.ownBlock ≠ some g := by
  obtain ⟨a, c, h1, h2, h3⟩ := h.row
  exact ownsRow_apart h3 hb ht
theorem Txt.one {w : World} {x : Value} {m : Mg} (h : Txt w x m) : x.oneCell' = true := by
  obtain ⟨a, c, rfl, -⟩ := h.row
  rfl

/-- The map's block is no row's. -/
theorem WMap.ne_row {w : World} {m : Nat} {ws : List (Nat × Nat)} (h : WMap w m ws) {B e s n : Nat} {v : Value} {xs : List Value} (hr : w.ownsRow B e s v n xs) : v.ownBlock ≠ some m := by
  rcases hr.2 with ⟨rfl, -⟩ | ⟨g, cap, cur, rfl, -, hg, -⟩
  · simp [Value.ownBlock]
  · intro he
    simp [Value.ownBlock] at he
    subst he
    exact h.ne (show Blk w g e cur from hg) rfl
theorem ownsRow_shape {w : World} {B e s n : Nat} {v : Value} {xs : List Value} (h : w.ownsRow B e s v n xs) : ∃ a c, v = .slice a n c ∧ n ≤ c := by
  rcases h.2 with ⟨rfl, rfl⟩ | ⟨g, cap, cur, rfl, -, -, hn, -⟩
  · exact ⟨none, 0, rfl, Nat.le_refl _⟩
  · exact ⟨_, _, rfl, hn⟩

structure NIs (w : World) (P : Nat) (n : Nt) (U : Nat → Prop) (m : Nat) (v : Value) (ts : List (Value × Mg)) : Prop where
  blk : Blk w P 60 #[v, .map (some m)]
  row : w.ownsRow 0 34 1 v ts.length (ts.map Prod.fst)
  ways : WMap w m n.W
  txt : ∀ t ∈ ts, Txt w t.1 t.2
  msgs : ts.map Prod.snd = n.L
  few : ts.length ≤ 256
  uP : U P
  um : U m
  uv : ∀ k, v.ownBlock = some k → U k
  ut : ∀ t ∈ ts, ∀ k, t.1.ownBlock = some k → U k
  ul : ∀ k, U k → k < w.heap.size

def IsNet (w : World) (P : Nat) (n : Nt) (U : Nat → Prop) : Prop := ∃ m v ts, NIs w P n U m v ts

theorem NIs.keep {w w' : World} {P : Nat} {n : Nt} {U V : Nat → Prop} {m : Nat} {v : Value} {ts : List (Value × Mg)} (h : NIs w P n U m v ts) (ho : OnlyS V w w') (hV : ∀ k, k < w.heap.size → V k → ¬ U k) : NIs w' P n U m v ts := by
  have hk : ∀ k, U k → w'.heap[k]? = w.heap[k]? := fun k hk => ho.block k (h.ul k hk) fun e => hV k (h.ul k hk) e hk
  exact { blk := h.blk.onlyS ho (fun e => hV P (h.ul P h.uP) e h.uP)
          row := ownsRow_to h.row fun k e => hk k (h.uv k e)
          ways := h.ways.same (hk m h.um)
          txt := fun t ht => (h.txt t ht).to fun k e => hk k (h.ut t ht k e)
          msgs := h.msgs, few := h.few, uP := h.uP, um := h.um, uv := h.uv, ut := h.ut
          ul := fun k e => Nat.lt_of_lt_of_le (h.ul k e) ho.size }
theorem NIs.widen {w : World} {P : Nat} {n : Nt} {U U' : Nat → Prop} {m : Nat} {v : Value} {ts : List (Value × Mg)} (h : NIs w P n U m v ts) (h1 : ∀ k, U k → U' k) (h2 : ∀ k, U' k → k < w.heap.size) : NIs w P n U' m v ts :=
  ⟨h.blk, h.row, h.ways, h.txt, h.msgs, h.few, h1 _ h.uP, h1 _ h.um, fun k e => h1 k (h.uv k e), fun t ht k e => h1 k (h.ut t ht k e), h2⟩
theorem NIs.len {w : World} {P : Nat} {n : Nt} {U : Nat → Prop} {m : Nat} {v : Value} {ts : List (Value × Mg)} (h : NIs w P n U m v ts) : n.L.length = ts.length := by rw [← h.msgs, List.length_map]

abbrev np (P : Nat) : Value := .pointer (some ⟨P, 0, none⟩)

theorem nlen_any {w : World} {P : Nat} {n : Nt} {U : Nat → Prop} {m : Nat} {v : Value} {ts : List (Value × Mg)} (h : NIs w P n U m v ts) :
    Calls Try.prog 25 #[np P] w fun e w' => e = .returned (.int .i64 (ts.length : Int)) ∧ w = w' := by
  obtain ⟨a, c, rfl, -⟩ := ownsRow_shape h.row
  have c0 : w.cell? ⟨P, 0, none⟩ = some (.slice a ts.length c) := by rw [h.blk.cell]; rfl
  obtain ⟨l, hl⟩ : ∃ l, l = ts.length := ⟨_, rfl⟩
  rw [← hl] at c0 ⊢
  clear hl h
  go_enter Try.func25, Try.ntmps25
  go_wp2
  go_ret
  exact ⟨rfl, rfl⟩

theorem nhas_any {w : World} {P : Nat} {n : Nt} {U : Nat → Prop} {m : Nat} {v : Value} {ts : List (Value × Mg)} (h : NIs w P n U m v ts) (i : Int) :
    Calls Try.prog 31 #[np P, .int .i64 i] w fun e w' => e = .returned (.bool (decide (0 ≤ i ∧ i.toNat < ts.length))) ∧ w = w' := by
  have HL := Lib.hid (nlen_any h)
  obtain ⟨l, hl⟩ : ∃ l, l = ts.length := ⟨_, rfl⟩
  rw [← hl] at HL ⊢
  clear hl h
  by_cases h0 : 0 ≤ i
  · by_cases h1 : i < (l : Int)
    · have hd : decide (0 ≤ i ∧ i.toNat < l) = true := decide_eq_true ⟨h0, by omega⟩
      rw [hd]
      clear hd
      go_enter Try.func31, Try.ntmps31
      go_wp2_with fail
      refine HL.out.mono ?_
      rintro e w2 ⟨rfl, rfl⟩
      go_wp2
      go_ret
      exact ⟨rfl, rfl⟩
    · have hd : decide (0 ≤ i ∧ i.toNat < l) = false := decide_eq_false fun h => by omega
      rw [hd]
      clear hd
      go_enter Try.func31, Try.ntmps31
      go_wp2_with fail
      refine HL.out.mono ?_
      rintro e w2 ⟨rfl, rfl⟩
      go_wp2
      go_ret
      exact ⟨by show Ending.returned (.bool (decide (i < (l : Int)))) = _; rw [decide_eq_false (show ¬ i < (l : Int) by omega)], rfl⟩
  · have hd : decide (0 ≤ i ∧ i.toNat < l) = false := decide_eq_false fun h => h0 h.1
    rw [hd]
    clear hd
    go_enter Try.func31, Try.ntmps31
    go_wp2
    go_ret
    exact ⟨rfl, rfl⟩
end Go.Proofs.Ytgbhfolbkgibfaa

/- Layer 19: a message is put behind all others: add, Send, Twice. -/
namespace Go.Proofs.Ytgbhfolbkgibfaa
set_option maxRecDepth 20000
open Go.RowKit Go.Maps BinMath NetMath
open MsgMath (Mg formedM putM getM)

theorem ownsRow_blk {w : World} {B e s n k : Nat} {v : Value} {xs : List Value} (h : w.ownsRow B e s v n xs) (hk : v.ownBlock = some k) : ∃ cur, Blk w k e cur := by
  rcases h.2 with ⟨rfl, -⟩ | ⟨g, cap, cur, rfl, -, hg, -⟩
  · simp [Value.ownBlock] at hk
  · simp [Value.ownBlock] at hk
    subst hk
    exact ⟨cur, hg⟩

/-- The list is another one, in its own block or in a new one. -/
theorem NIs.next {w w' : World} {P : Nat} {n n' : Nt} {U : Nat → Prop} {m : Nat} {v v' : Value} {ts ts' : List (Value × Mg)} (h : NIs w P n U m v ts) (ho : OnlyS (fun k => k = P ∨ v.ownBlock = some k) w w')
    (hb : Blk w' P 60 #[v', .map (some m)]) (hr : w'.ownsRow 0 34 1 v' ts'.length (ts'.map Prod.fst)) (hn : ∀ k, v'.ownBlock = some k → v.ownBlock = some k ∨ w.heap.size ≤ k)
    (ht : ∀ t ∈ ts', t ∈ ts ∨ Txt w t.1 t.2 ∧ ∀ k, t.1.ownBlock = some k → U k) (hm : ts'.map Prod.snd = n'.L) (hW : n'.W = n.W) (hf : ts'.length ≤ 256) :
    NIs w' P n' (fun k => (U k ∨ w.heap.size ≤ k) ∧ k < w'.heap.size) m v' ts' := by
  have ht' : ∀ t ∈ ts', Txt w t.1 t.2 ∧ ∀ k, t.1.ownBlock = some k → U k := fun t e => (ht t e).elim (fun e => ⟨h.txt t e, h.ut t e⟩) id
  have hs : ∀ k, U k → k < w'.heap.size := fun k e => Nat.lt_of_lt_of_le (h.ul k e) ho.size
  exact { blk := hb, row := hr
          ways := by
            rw [hW]
            exact h.ways.same (ho.block m h.ways.lt fun e => e.elim (h.ways.ne h.blk) (h.ways.ne_row h.row))
          txt := fun t e => (ht' t e).1.to fun k hk => ho.block k ((ht' t e).1.lt hk) fun e2 => by
            rcases e2 with rfl | e2
            · exact (ht' t e).1.ne h.blk (by decide) hk
            · obtain ⟨cur, hc⟩ := ownsRow_blk h.row e2
              exact (ht' t e).1.ne hc (by decide) hk
          msgs := hm, few := hf, uP := ⟨.inl h.uP, hs _ h.uP⟩, um := ⟨.inl h.um, hs _ h.um⟩
          uv := fun k e => ⟨(hn k e).imp (h.uv k) id, (World.ownsRow.lt hr k e).2⟩
          ut := fun t e k hk => ⟨.inl ((ht' t e).2 k hk), hs k ((ht' t e).2 k hk)⟩
          ul := fun k e => e.2 }

theorem info_txt : (Try.prog.info? 34).map (fun i => (i.zero, i.size, i.bytes)) = some (some (.slice none 0 0), 1, 24) := by kernel_rfl

/-- append(v, x). -/
theorem append_txt {w : World} {v x : Value} {xs : List Value} (h : w.ownsRow 0 34 1 v xs.length xs) (hx : x.oneCell' = true) (hl : xs.length ≤ 1000) :
    ∃ v' w', (Builtin.append_ #[58, 58] 58 #[v, .slice (some ⟨w.heap.size, 0, none⟩) 1 1]).run Try.prog (w.alloc (.cells #[x] 34)) = .ok v' w' ∧
      (w'.ownsRow 0 34 1 v' (xs.length + 1) (xs ++ [x]) ∧ OnlyS (fun k => v.ownBlock = some k) w w' ∧ ∀ k, v'.ownBlock = some k → v.ownBlock = some k ∨ w.heap.size ≤ k) := by
  obtain ⟨i0, hi, hz0, hz1, hz2⟩ := info_parts info_txt
  have hb := Blk.new w 34 #[x]
  have hbl : Below w.heap.size w (w.alloc (.cells #[x] 34)) := (Below.refl _ _).alloc (Nat.le_refl _) _
  have hs : w.heap.size ≤ (w.alloc (.cells #[x] 34)).heap.size := hbl.size
  obtain ⟨v', w', hr, h1, h2, h3, h4⟩ := run_append_own_at (P := Try.prog) (w.alloc (.cells #[x] 34)) 0 58 58 34 i0 (.slice none 0 0) 1 24 Try.underlying58 hi hz0 hz1 hz2 rfl (by decide) v xs.length xs (ownsRow_keep h hbl) ⟨w.heap.size, 0, none⟩ 1 1 [x] (by simp)
    (fun j u hj => by rw [addr_add, Nat.zero_add, hb.cell]; simpa using hj) (fun u hu => by simp at hu; rw [hu]; exact hx) (by unfold maxLen; omega) (by omega) (Nat.zero_le _)
  refine ⟨v', w', hr, h1, ⟨h2.os.trans hbl.os, h2.tape.trans hbl.tape, h2.output.trans hbl.output, Nat.le_trans hs h2.size, fun k hk hne => ?_⟩, fun k hk => ?_⟩
  · rw [h2.block k (Nat.lt_of_lt_of_le hk hs) fun e => hne e.symm, hbl.block k hk]
  · rcases h4 with h4 | h4
    · exact .inl (h4 ▸ hk)
    · rw [h4] at hk
      simp at hk
      exact .inr (by omega)

set_option maxHeartbeats 1000000 in
theorem nadd_any {w : World} {P : Nat} {n : Nt} {U : Nat → Prop} {m : Nat} {v : Value} {ts : List (Value × Mg)} (h : NIs w P n U m v ts) {x : Value} {mg : Mg} (hx : Txt w x mg) (hxU : ∀ k, x.ownBlock = some k → U k) :
    Calls Try.prog 28 #[np P, x] w (NetEnd IsNet P U (if 256 ≤ n.L.length then n else ⟨n.L ++ [mg], n.W⟩) w fun e _ => e = .returned (.int .i64 (if 256 ≤ n.L.length then 7 else 0))) := by
  rw [h.len]
  have HL := Lib.hid (nlen_any h)
  have HH := Lib.hid h
  by_cases hf : 256 ≤ ts.length
  · simp only [if_pos hf]
    obtain ⟨l, hl⟩ : ∃ l, l = ts.length := ⟨_, rfl⟩
    rw [← hl] at HL hf
    have hq : (256 : Int) ≤ (l : Int) := by omega
    clear hl h hx hxU hf
    go_enter Try.func28, Try.ntmps28
    go_wp2_with fail
    refine HL.out.mono ?_
    rintro e w2 ⟨rfl, rfl⟩
    go_wp2
    go_ret
    exact ⟨rfl, OnlyS.refl _ _, U, ⟨m, v, ts, HH.out⟩, fun k hk => .inl hk⟩
  · simp only [if_neg hf]
    have hq : ¬ (256 : Int) ≤ (ts.length : Int) := by omega
    have hlm : (ts.map Prod.fst).length = ts.length := List.length_map _
    have A := Lib.hid (append_txt (w := w) (v := v) (x := x) (xs := ts.map Prod.fst) (by rw [hlm]; exact h.row) hx.one (by rw [hlm]; omega))
    obtain ⟨a, c, rfl, -⟩ := ownsRow_shape h.row
    obtain ⟨xa, xc, hxe, -⟩ := hx.row
    subst hxe
    have hb1 := h.blk.alloc (.cells #[.slice xa (putM mg).length xc] 34)
    have c0 : w.cell? ⟨P, 0, none⟩ = some (.slice a ts.length c) := by rw [h.blk.cell]; rfl
    have HX := Lib.hid hx
    have HXU := Lib.hid hxU
    have HB := Lib.hid h.blk
    have HF := Lib.hid hf
    have HVP := Lib.hid (ownsRow_apart h.row h.blk (by decide))
    obtain ⟨l, hl⟩ : ∃ l, l = ts.length := ⟨_, rfl⟩
    obtain ⟨lx, hlx⟩ : ∃ l, l = (putM mg).length := ⟨_, rfl⟩
    have HL2 := Lib.hid hl
    have HLX := Lib.hid hlx
    rw [hlm] at A
    rw [← hl] at HL hq c0 A HVP HB
    rw [← hlx] at A HX HXU ⊢
    clear hl hlx h hx hxU hf hlm hb1
    go_enter Try.func28, Try.ntmps28
    go_wp2_with fail
    refine HL.out.mono ?_
    rintro e w2 ⟨rfl, rfl⟩
    go_wp2_with (first
      | (at_builtin; refine wpList_append_by rfl _ _ 58 rfl _ _ rfl rfl _ A.out ?_; rintro v1 w1 ⟨hr, ho, hn⟩; obtain ⟨a1, c1, rfl, -⟩ := ownsRow_shape hr; (have HB1 := Lib.hid (HB.out.onlyS ho HVP.out)); (have HR := Lib.hid hr); (have HO := Lib.hid ho); (have HN := Lib.hid hn); clear hr ho hn c0)
      | (refine wpList_store_fld rfl 58 (.tmp 17) (.tmp 15) rfl P 0 (.slice a1 (l + 1) c1) rfl rfl 60 #[.slice a l c, .map (some m)] #[.slice a1 (l + 1) c1, .map (some m)] HB1.out (by simp) rfl (by kernel_rfl) rfl ?_; intro w3 hb ho; (have HB3 := Lib.hid hb); (have HO3 := Lib.hid ho); clear hb ho))
    go_ret
    have hl := HL2.out
    have hlx := HLX.out
    subst hl
    subst hlx
    have hap := ownsRow_apart HR.out HB1.out (by decide)
    have ho2 : OnlyS (fun k => k = P ∨ (Value.slice a ts.length c).ownBlock = some k) w w3 := (HO.out.mono fun k _ e => .inr e).then HO3.out fun k _ e => .inl e
    have hr3 := ownsRow_to HR.out fun k e => HO3.out.block k (World.ownsRow.lt HR.out k e).2 fun e2 => hap (e2 ▸ e)
    refine ⟨rfl, ho2.mono fun k _ e => e.elim (fun e => e ▸ HH.out.uP) (HH.out.uv k), _, ⟨m, _, ts ++ [(.slice xa (putM mg).length xc, mg)], HH.out.next ho2 HB3.out ?_ HN.out (fun t ht => ?_) ?_ rfl ?_⟩, fun k e => e.1⟩
    · rw [List.length_append, List.map_append]
      exact hr3
    · rcases List.mem_append.1 ht with ht | ht
      · exact .inl ht
      · rw [List.mem_singleton] at ht
        subst ht
        exact .inr ⟨HX.out, HXU.out⟩
    · rw [List.map_append, HH.out.msgs]
      rfl
    · have := HF.out
      simp
      omega
end Go.Proofs.Ytgbhfolbkgibfaa

/- Layer 19: slices.Delete of a list of texts: one is taken out. -/
namespace Go.Proofs.Ytgbhfolbkgibfaa
set_option maxRecDepth 20000
open Go.RowKit Go.Maps BinMath NetMath Reg
open MsgMath (Mg formedM putM getM)

theorem nelem_txs : Try.prog.elem 58 = 34 := by kernel_rfl
theorem nsize_txt (w : World) : (Go.sizeOf 34).run Try.prog w = .ok 1 w := by kernel_rfl
theorem nslice_und : Try.prog.underlying 58 = some (.slice (Try.prog.elem 58)) := by rw [nelem_txs]; exact Try.underlying58
theorem nzero_text (w : World) : (zeroValue 34).run Try.prog w = .ok (.slice none 0 0) w := by kernel_rfl

/-- 's[:i]'. -/
theorem nslice_to (a : Option Addr) (n c i : Nat) (hi : i ≤ c) (W : World) : (Instr.sliceAt 58 (.slice a n c) none (some (.int .i64 (i : Int))) none).run Try.prog W = .ok (.slice a i c) W := by
  rw [run_sliceAt_slice _ _ _ _ _ _ nslice_und, run_slice_h _ _ _ _ _ nslice_und .i64 (i : Int) (by omega) (by omega), nelem_txs, nsize_txt]
  cases a with
  | none => simp [Result.andThen, sliced]
  | some ad => simp [Result.andThen, sliced, Addr.add]
/-- 's[i:]'. -/
theorem nslice_from (a : Option Addr) (n c i : Nat) (hi : i ≤ n) (W : World) : (Instr.sliceAt 58 (.slice a n c) (some (.int .i64 (i : Int))) none none).run Try.prog W = .ok (sliced a i n c 1) W := by
  rw [run_sliceAt_slice _ _ _ _ _ _ nslice_und, run_slice_l _ _ _ _ _ nslice_und .i64 (i : Int) (by omega) (by omega), nelem_txs, nsize_txt]
  rfl
/-- 's[i:j]', j behind the length. -/
theorem nslice_mid (g n c i j : Nat) (hi : i ≤ j) (hj : j ≤ c) (hic : i < c) (W : World) : (Instr.sliceAt 58 (.slice (some ⟨g, 0, none⟩) n c) (some (.int .i64 (i : Int))) (some (.int .i64 (j : Int))) none).run Try.prog W = .ok (.slice (some ⟨g, i, none⟩) (j - i) (c - i)) W := by
  rw [run_sliceAt_slice _ _ _ _ _ _ nslice_und, run_slice_lh _ _ _ _ _ nslice_und .i64 .i64 (i : Int) (j : Int) (by omega) (by omega) (by omega), nelem_txs, nsize_txt]
  simp only [Result.andThen_ok, Int.toNat_natCast, sliced]
  rw [if_neg (by omega)]
  simp [addr_add]
/-- 's[i:j:m]'. -/
theorem nslice_three (a : Option Addr) (n c i j m : Nat) (hi : i ≤ j) (hj : j ≤ m) (hm : m ≤ c) (W : World) : (Instr.sliceAt 58 (.slice a n c) (some (.int .i64 (i : Int))) (some (.int .i64 (j : Int))) (some (.int .i64 (m : Int)))).run Try.prog W = .ok (sliced a i j m 1) W := by
  rw [run_sliceAt_slice _ _ _ _ _ _ nslice_und, run_slice_lhm _ _ _ _ _ nslice_und .i64 .i64 .i64 (i : Int) (j : Int) (m : Int) (by omega) (by omega) (by omega) (by omega), nelem_txs, nsize_txt]
  simp only [Result.andThen_ok, Int.toNat_natCast]

/-- append(s[:i], s[i+1:]...): in its place. -/
theorem nappend_over {w : World} {B g n c i : Nat} {us : List Value} (h : w.ownsRow B 34 1 (.slice (some ⟨g, 0, none⟩) n c) n us) (hi : i < n) (hone : ∀ u ∈ us, u.oneCell' = true) :
    ∃ w', (Builtin.append_ #[58, 58] 58 #[.slice (some ⟨g, 0, none⟩) i c, sliced (some ⟨g, 0, none⟩) (i + 1) n c 1]).run Try.prog w = .ok (.slice (some ⟨g, 0, none⟩) (n - 1) c) w' ∧
      (w'.ownsRow B 34 1 (.slice (some ⟨g, 0, none⟩) (n - 1) c) (n - 1) (us.eraseIdx i) ∧ OnlyS (fun k => k = g) w w') := by
  obtain ⟨i0, hi0, hz0, hz1, hz2⟩ := info_parts info_txt
  have hl : us.length = n := by have := h.1; omega
  rcases h.2 with ⟨h1, -⟩ | ⟨g', cap, cur, hv, hB, hg, hn, hm, hs, ht⟩
  · cases h1
  · cases hv
    have htake : w.ownsRow B 34 1 (.slice (some ⟨g, 0, none⟩) i c) i (us.take i) := by
      refine ⟨by rw [List.length_take, hl]; omega, .inr ⟨g, c, cur, rfl, hB, hg, by omega, hm, hs, ?_⟩⟩
      rw [← ht, List.take_take, Nat.mul_one, Nat.mul_one, Nat.min_eq_left (by omega)]
    have hnews : ∀ (p : Nat) (u : Value), (us.drop (i + 1))[p]? = some u → ∀ o, o = i + 1 → w.cell? ((⟨g, o, none⟩ : Addr).add p) = some u := fun p u hp o ho => by
      subst ho
      rw [List.getElem?_drop] at hp
      have h2 := (List.getElem?_eq_some_iff.1 hp).1
      rw [addr_add, (show Blk w g 34 cur from hg).cell]
      rw [← ht, List.getElem?_take, if_pos (by omega), Array.getElem?_toList] at hp
      exact hp
    have herase : us.take i ++ us.drop (i + 1) = us.eraseIdx i := (List.eraseIdx_eq_take_drop_succ us i).symm
    have hdl : (us.drop (i + 1)).length = n - (i + 1) := by rw [List.length_drop, hl]
    have hone' : ∀ u ∈ us.drop (i + 1), u.oneCell' = true := fun u hu => hone u (List.mem_of_mem_drop hu)
    by_cases hci : c = i + 1
    · have e0 : us.drop (i + 1) = [] := List.drop_of_length_le (by omega)
      obtain ⟨w', hr, h1, h2⟩ := run_append_fits (P := Try.prog) w B 58 58 34 i0 1 Try.underlying58 hi0 hz1 g i c (us.take i) htake ⟨g, 0, none⟩ (n - (i + 1)) (c - (i + 1)) (us.drop (i + 1)) (by omega)
        (fun p u hp => by rw [e0] at hp; simp at hp) hone' (by omega)
      rw [herase, show i + (n - (i + 1)) = n - 1 by omega] at h1
      rw [show i + (n - (i + 1)) = n - 1 by omega] at hr
      refine ⟨w', ?_, h1, ⟨h2.os, h2.tape, h2.output, h2.size, fun k hk hne => h2.block k hk fun e => hne (by simpa using e)⟩⟩
      have e1 : sliced (some ⟨g, 0, none⟩) (i + 1) n c 1 = .slice (some ⟨g, 0, none⟩) (n - (i + 1)) (c - (i + 1)) := by unfold sliced; rw [if_pos hci]
      rw [e1]
      exact hr
    · obtain ⟨w', hr, h1, h2⟩ := run_append_fits (P := Try.prog) w B 58 58 34 i0 1 Try.underlying58 hi0 hz1 g i c (us.take i) htake ⟨g, i + 1, none⟩ (n - (i + 1)) (c - (i + 1)) (us.drop (i + 1)) (by omega)
        (fun p u hp => hnews p u hp _ rfl) hone' (by omega)
      rw [herase, show i + (n - (i + 1)) = n - 1 by omega] at h1
      rw [show i + (n - (i + 1)) = n - 1 by omega] at hr
      refine ⟨w', ?_, h1, ⟨h2.os, h2.tape, h2.output, h2.size, fun k hk hne => h2.block k hk fun e => hne (by simpa using e)⟩⟩
      have e1 : sliced (some ⟨g, 0, none⟩) (i + 1) n c 1 = .slice (some ⟨g, i + 1, none⟩) (n - (i + 1)) (c - (i + 1)) := by
        unfold sliced
        rw [if_neg hci]
        simp [addr_add]
      rw [e1]
      exact hr

/-- clear(s[n:n+1]): what lies behind the list. -/
theorem nclear_behind {w : World} {B g n c : Nat} {us : List Value} (h : w.ownsRow B 34 1 (.slice (some ⟨g, 0, none⟩) n c) n us) (hc : n + 1 ≤ c) (ty : TypeId) (q : Nat) :
    ∃ w', (Builtin.clear_ #[58] ty #[.slice (some ⟨g, n, none⟩) 1 q]).run Try.prog w = .ok (.tuple #[]) w' ∧ (w'.ownsRow B 34 1 (.slice (some ⟨g, 0, none⟩) n c) n us ∧ OnlyS (fun k => k = g) w w') := by
  obtain ⟨h0, h2⟩ := h
  rcases h2 with ⟨h1, -⟩ | ⟨g', cap, cur, hv, hB, hg, hn, hm, hs, ht⟩
  · cases h1
  · cases hv
    have hr := Lib.run_clear_slice (P := Try.prog) w 58 34 ty (.slice none 0 0) Try.underlying58 nzero_text rfl rfl g n 1 q (by omega)
      (fun j hj => by rw [cell_of_heap hg]; simp; omega) (fun j hj => free_of_heap hg)
    have e1 : w.setCells g n (List.replicate 1 (.slice none 0 0)) = w.setCell ⟨g, n, none⟩ (.slice none 0 0) := rfl
    rw [e1] at hr
    refine ⟨_, hr, ⟨h0, .inr ⟨g, c, _, rfl, hB, heap_set_same hg _, hn, hm, by simpa using hs, ?_⟩⟩, (OnlyS.refl (fun k => k = g) w).setCell (p := ⟨g, n, none⟩) (fun _ => rfl) _⟩
    rw [← ht, Array.toList_setIfInBounds, List.take_set, Nat.mul_one, List.set_eq_of_length_le (by rw [List.length_take]; omega)]

theorem wpList_clear_to {w : World} {ops : Array Oper} {rest : List Oper} {o : Oper} {a : Act} {Q : Exit → Act → World → Prop} (hgd : o.guard = none) (x : Operand) (t : TypeId)
    (ho : o.op = .call { callee := .builtin .clear, args := #[x], argTypes := #[t] }) (v : Value) (hx : a.eval x = v) (R : World → Prop)
    (hr : ∃ w', (Builtin.clear_ #[t] o.type #[v]).run Try.prog w = .ok (.tuple #[]) w' ∧ R w') (h : ∀ w', R w' → wpList Try.prog ops Q rest (a.put o.dst (.tuple #[])) w') : wpList Try.prog ops Q (o :: rest) a w := by
  obtain ⟨w', hrun, hR⟩ := hr
  refine wpList_plain hgd fun K hK => ?_
  unfold Oper.wp
  simp [execOp, ho, resolve, invoke, builtin, hx, hrun, Result.andThen]
  exact hK _ _ (h w' hR)
end Go.Proofs.Ytgbhfolbkgibfaa

/- Layer 19: slices.Delete, walked. -/
namespace Go.Proofs.Ytgbhfolbkgibfaa
set_option maxRecDepth 20000
open Go.RowKit Go.Maps BinMath NetMath Reg
open MsgMath (Mg formedM putM getM)

set_option maxHeartbeats 4000000 in
theorem ndelete_any {w : World} {B g n c i j : Nat} {us : List Value} (h : w.ownsRow B 34 1 (.slice (some ⟨g, 0, none⟩) n c) n us) (hi : i < n) (hj : j = i + 1) (hone : ∀ u ∈ us, u.oneCell' = true) :
    Calls Try.prog 30 #[.slice (some ⟨g, 0, none⟩) n c, .int .i64 (i : Int), .int .i64 (j : Int)] w fun e w' => e = .returned (.slice (some ⟨g, 0, none⟩) (n - 1) c) ∧ w'.ownsRow B 34 1 (.slice (some ⟨g, 0, none⟩) (n - 1) c) (n - 1) (us.eraseIdx i) ∧ OnlyS (fun k => k = g) w w' := by
  obtain ⟨a', c', hv, hnc⟩ := ownsRow_shape h
  cases hv
  obtain ⟨ya, yn, yc, hY⟩ : ∃ xa xn xc, Value.slice xa xn xc = sliced (some ⟨g, 0, none⟩) i j n 1 := ⟨_, _, _, rfl⟩
  have S0 := nslice_three (some ⟨g, 0, none⟩) n c i j n (by omega) (by omega) hnc
  rw [← hY] at S0
  have S1 := nslice_to (some ⟨g, 0, none⟩) n c i (by omega)
  obtain ⟨xa, xn, xc, hX⟩ : ∃ xa xn xc, Value.slice xa xn xc = sliced (some ⟨g, 0, none⟩) j n c 1 := ⟨_, _, _, rfl⟩
  have S2 : ∀ W, (Instr.sliceAt 58 (.slice (some ⟨g, 0, none⟩) n c) (some (.int .i64 (j : Int))) none none).run Try.prog W = .ok (.slice xa xn xc) W := fun W => by rw [hX]; exact nslice_from (some ⟨g, 0, none⟩) n c j (by omega) W
  have HA := Lib.hid (show ∀ W, Below w.heap.size w W → ∃ w', (Builtin.append_ #[58, 58] 58 #[.slice (some ⟨g, 0, none⟩) i c, .slice xa xn xc]).run Try.prog W = .ok (.slice (some ⟨g, 0, none⟩) (n - 1) c) w' ∧
      (w'.ownsRow B 34 1 (.slice (some ⟨g, 0, none⟩) (n - 1) c) (n - 1) (us.eraseIdx i) ∧ OnlyS (fun k => k = g) W w') from fun W hW => by rw [hX, hj]; exact nappend_over (ownsRow_keep h hW) hi hone)
  have HC := Lib.hid hnc
  have HI := Lib.hid hi
  have hne : ¬ (i : Int) = (j : Int) := by omega
  have S3 := nslice_mid g (n - 1) c (n - 1) n (by omega) hnc (by omega)
  obtain ⟨p, hp⟩ : ∃ p, p = n - 1 := ⟨_, rfl⟩
  have HPn := Lib.hid hp
  rw [← hp] at HA S3 ⊢
  rw [show n - p = 1 by omega] at S3
  clear h hX hY hone hi hnc hp hj
  go_enter Try.func30, Try.ntmps30
  go_upto_region 5 with fail
  clear S0 hne
  refine region_tail 6 (by kernel_rfl) (by kernel_rfl) (fun W => Below w.heap.size w W) ((Below.refl _ _).drew) ?_
  intro wq hW
  have A1 := Lib.hid (HA.out wq hW)
  have HW := Lib.hid hW
  clear hW
  simp only [List.take_succ_cons, List.take_zero, List.drop_succ_cons, List.drop_zero]
  repeat (first | go_big_quiet_skip | (go_big_quiet_want; go_big_quiet_op; go_big_quiet_on))
  refine wpQuiet_nil ?_
  go_wp2_with (first
    | (at_builtin; refine wpList_append_by rfl (.tmp 22) (.tmp 25) 58 rfl _ _ rfl rfl (fun v W => v = .slice (some ⟨g, 0, none⟩) p c ∧ (W.ownsRow B 34 1 (.slice (some ⟨g, 0, none⟩) p c) p (us.eraseIdx i) ∧ OnlyS (fun k => k = g) wq W)) (by obtain ⟨w', h1, h2⟩ := A1.out; exact ⟨_, w', h1, rfl, h2⟩) ?_; rintro v1 w1 ⟨rfl, hr, ho⟩; (have HR := Lib.hid hr); (have HO := Lib.hid ho); clear hr ho; (have CL := Lib.hid (fun ty q => nclear_behind HR.out (by have := HC.out; have := HI.out; have := HPn.out; omega) ty q)))
    | (refine wpList_clear_to rfl _ 58 rfl _ rfl _ (CL.out _ _) ?_; rintro w2 ⟨hr, ho⟩; (have HR2 := Lib.hid hr); (have HO2 := Lib.hid ho); clear hr ho))
  go_ret
  exact ⟨rfl, HR2.out, ((OnlyS.of_below (S := fun k => k = g) HW.out fun _ hk _ => hk).then HO.out fun k _ e => e).then HO2.out fun k _ e => e⟩
end Go.Proofs.Ytgbhfolbkgibfaa

