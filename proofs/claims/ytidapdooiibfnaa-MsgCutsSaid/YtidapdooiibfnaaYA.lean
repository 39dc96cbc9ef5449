/- Joined: MsgNums, Stores, MsgStores, MsgBare, MsgPutKit, MsgRefFormed, LateTails, LateTails0, MsgRefPut. -/
import Derived.Test.YtidapdooiibfnaaHK
import Derived.Test.YtidapdooiibfnaaHC
import Derived.Test.YtidapdooiibfnaaHD
import Derived.Test.YtidapdooiibfnaaHG
import Derived.Great.BuildSlice
import Derived.Test.YtidapdooiibfnaaHN
import Derived.Test.YtidapdooiibfnaaHF
/- Layer 18's reference: numbers as bytes; a flag. -/
namespace Go.Proofs.Ytidapdooiibfnaa
set_option maxRecDepth 20000
open Go.RowKit BinMath CmdMath

end Go.Proofs.Ytidapdooiibfnaa

/- A region that draws its order, told by facts, some of whose operations write memory in any place among the others: what is told of the world looks at what has come up. -/
namespace Go.Proofs.Ytidapdooiibfnaa.Reg
set_option maxRecDepth 20000
open Go.RowKit

section
variable {P : Program} {ops : Array Oper} {tab : List (List Nat)} {fin : List Tmp} {f : Tmp → Fact} {i : Nat} {o : Oper}

variable {p q : Nat} {H : Bool → Bool → World → Prop}

end

/-- A store, as an operation of a region. -/
theorem gives_store {P : Program} {o : Oper} {x : Tmp → Value} {W W' : World} {R : Value → World → Prop} (ty : TypeId) (s t : Operand) (ho : o.op = .store ty s t) (p v : Value) (hs : evalBy x s = p) (ht : evalBy x t = v)
    (hr : (Instr.storeAt ty p v).run P W = .ok () W') (hR : R undef W') : gives P o x W R := by
  unfold gives
  simp only [execOp, ho, hs, ht, Sem.run_bind, hr, Result.andThen_ok, Sem.run_pure]
  exact hR

/-- Facts that last, of all slots. -/
theorem facts_keep {l : List (Tmp × Fact)} {a : Act} {W W' : World} (h : ∀ p ∈ l, ∀ u, p.2.holds u W → p.2.holds u W') (k : Tmp) (u : Value) (hu : (factsOf l a k).holds u W) : (factsOf l a k).holds u W' := by
  unfold factsOf at *
  cases hk : l.lookup k with
  | none =>
    rw [hk] at hu
    exact hu
  | some fk =>
    rw [hk] at hu
    have hmem : (k, fk) ∈ l := by
      clear hu h
      induction l with
      | nil => simp at hk
      | cons p l ih =>
        obtain ⟨p1, p2⟩ := p
        rw [List.lookup_cons] at hk
        by_cases hkp : (k == p1) = true
        · rw [hkp] at hk
          simp at hk hkp
          subst hk hkp
          simp
        · simp only [hkp] at hk
          exact List.mem_cons_of_mem _ (ih hk)
    exact h _ hmem u hu

end Go.Proofs.Ytidapdooiibfnaa.Reg

/- Fields of one block are written by many operations of a region, in any order. -/
namespace Go.Proofs.Ytidapdooiibfnaa.Reg
set_option maxRecDepth 20000
open Go.RowKit

/-- What a cell is to be: of the stores that have come up, or as it was. -/
def Sts.cell (cur : Array Value) (sts : List (Nat × Nat × Value)) (L : Array Bool) (j : Nat) : Option Value :=
  match sts.find? (fun s => s.2.1 == j && L.getD s.1 false) with
  | some s => some s.2.2
  | none => cur[j]?

/-- In the midst of stores into block g: operation, cell and value of each. -/
structure Sts (w0 : World) (g : Nat) (t : TypeId) (cur : Array Value) (sts : List (Nat × Nat × Value)) (L : Array Bool) (W : World) : Prop where
  os : OnlyS (fun k => k = g) w0 W
  ex : ∃ cc : Array Value, Blk W g t cc ∧ cc.size = cur.size ∧ ∀ j, cc[j]? = Sts.cell cur sts L j

section
variable {P : Program} {ops : Array Oper} {tab : List (List Nat)} {fin : List Tmp} {f : Tmp → Fact} {i : Nat} {o : Oper} {w0 : World} {g : Nat} {t : TypeId} {cur : Array Value} {sts : List (Nat × Nat × Value)}

end

end Go.Proofs.Ytidapdooiibfnaa.Reg

/- Layer 18's reference: bare. -/
namespace Go.Proofs.Ytidapdooiibfnaa
set_option maxRecDepth 20000
open Go.RowKit BinMath CmdMath Reg
open MsgMath (Mg)

def isFact : Fact → Bool
  | .is _ => true
  | _ => false

/-- Values last. -/
theorem facts_is {l : List (Tmp × Fact)} {a : Act} (h : (l.all fun p => isFact p.2) = true) (k : Tmp) (u : Value) (W W' : World) (hu : (factsOf l a k).holds u W) : (factsOf l a k).holds u W' := by
  refine facts_keep (W := W) (fun p hp u hu => ?_) k u hu
  have h1 := List.all_eq_true.1 h p hp
  cases hq : p.2 with
  | is v => rw [hq] at hu; exact hu
  | _ => rw [hq] at h1; simp [isFact] at h1

end Go.Proofs.Ytidapdooiibfnaa

/- Layer 18: lists of numbers that are built; an append in the midst of a drawn region. -/
namespace Go.Proofs.Ytidapdooiibfnaa
set_option maxRecDepth 20000
open Go.RowKit BinMath CmdMath Reg
open MsgMath (Mg)

/-- A list of numbers in a block from B on. -/
def farNums (B : Nat) (l : List Nat) : Fact := .sat (fun v W => ∃ k n, v = .slice (some ⟨k, 0, none⟩) n n ∧ l.length = n ∧ n ≠ 0 ∧ B ≤ k ∧ Blk W k 22 (l.map uv).toArray) fun _ _ _ ⟨k, n, h1, h2, h3, h4, h5⟩ hb => ⟨k, n, h1, h2, h3, h4, h5.keep hb⟩

theorem farNums.nums {B : Nat} {l : List Nat} {v : Value} {W : World} (h : (farNums B l).holds v W) : Nums W v l := by
  obtain ⟨k, n, rfl, h2, h3, h4, h5⟩ := h
  subst h2
  refine .inr ⟨_, _, rfl, Nat.le_refl _, fun i hi => ?_⟩
  rw [addr_add, Nat.zero_add, h5.cell]
  simp [hi, uv]

/-- A fact that lasts where a row is appended to that lies below B. -/
def Far (B : Nat) (f : Fact) : Prop := ∀ u W W' row, B ≤ W.heap.size → W.grownBy W' row → (∀ k, row = some k → k < B) → f.holds u W → f.holds u W'
theorem Far.is (B : Nat) (v : Value) : Far B (.is v) := fun _ _ _ _ _ _ _ h => h
theorem Far.row (B : Nat) (l : List UInt8) : Far B (.row B l) := fun u W W' row hB hg hr h => by
  have h0 : Row W B u l := h
  refine (row_to h0 fun k hk => ?_ : Row W' B u l)
  have hl := World.ownsRow.lt h0 k hk
  exact hg.block k hl.2 fun e => by have := hr k e.symm; omega
theorem Far.nums (B : Nat) (l : List Nat) : Far B (farNums B l) := fun u W W' row hB hg hr h => by
  obtain ⟨k, n, rfl, h2, h3, h4, h5⟩ := h
  refine ⟨k, n, rfl, h2, h3, h4, ?_⟩
  have hl := h5.lt
  unfold Blk at *
  rw [hg.block k hl fun e => by have := hr k e.symm; omega]
  exact h5

end Go.Proofs.Ytidapdooiibfnaa

/- Layer 18's reference: Formed. -/
namespace Go.Proofs.Ytidapdooiibfnaa
set_option maxRecDepth 20000
open Go.RowKit BinMath CmdMath Reg
open MsgMath (Mg formedM headOk restOk nodeOk)

end Go.Proofs.Ytidapdooiibfnaa

/- A region that draws its order, told by facts; its last operations each wait for all the earlier ones and are walked; they may write slots that earlier ones read. -/
namespace Go.Proofs.Ytidapdooiibfnaa
set_option maxRecDepth 20000
open Go.RowKit Reg

section
variable {ops ops0 : Array Oper}

end

end Go.Proofs.Ytidapdooiibfnaa

/- A region that draws its order, told by facts, whose last operations come one behind the other; of one slot that it reads and in the end writes something is known ahead of it. -/
namespace Go.Proofs.Ytidapdooiibfnaa
set_option maxRecDepth 20000
open Go.RowKit Reg

end Go.Proofs.Ytidapdooiibfnaa

/- Layer 18's reference: Put. -/
namespace Go.Proofs.Ytidapdooiibfnaa
set_option maxRecDepth 20000
open Go.RowKit BinMath CmdMath Reg
open MsgMath (Mg formedM headOk restOk nodeOk putM entsL bodyL flagL)

theorem formedM_facts {m : Mg} (h : formedM m = true) : m.e.length ≤ 4 ∧ m.g.length ≤ 16384 ∧ (∀ x ∈ m.e, formed x = true) ∧ (m.k = 5 → memOk m.m = true) := by
  simp only [formedM, headOk, restOk, nodeOk, termOk, Bool.and_eq_true, decide_eq_true_eq, Bool.or_eq_true, List.all_eq_true] at h
  obtain ⟨-, ⟨-, -, h1, h2⟩, h3, h4⟩ := h
  exact ⟨h1, h2, h3, fun hk => h4.resolve_left fun hn => hn hk⟩

theorem entsL_len : ∀ (es : List Ent), (∀ x ∈ es, x.Ok) → (∀ x ∈ es, formed x = true) → (entsL es).length ≤ 137 * es.length
  | [], _, _ => by simp [entsL]
  | x :: r, h1, h2 => by
    have h3 := entsL_len r (fun y hy => h1 y (by simp [hy])) fun y hy => h2 y (by simp [hy])
    have h4 := MsgMath.putL_len x (h1 x (by simp)) (h2 x (by simp))
    have h5 := numL_le (putL x).length (by omega)
    simp only [entsL, List.length_append, List.length_cons]
    omega
end Go.Proofs.Ytidapdooiibfnaa

