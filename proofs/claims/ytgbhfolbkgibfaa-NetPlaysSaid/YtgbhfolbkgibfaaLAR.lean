/- Joined: MsgWithin, MsgRows, MsgMemb. -/
import Derived.Test.YtgbhfolbkgibfaaLAQ
import Derived.Test.YtgbhfolbkgibfaaLAP
import Derived.Test.YtgbhfolbkgibfaaLAO
import Derived.Test.YtgbhfolbkgibfaaLAK
/- Layer 18: a hand in memory; numbers that go through it. -/
namespace Go.Proofs.Ytgbhfolbkgibfaa
set_option maxRecDepth 20000
open Go.RowKit Go.Maps BinMath CmdMath
open MsgMath (Mg Hand)

theorem mask_yes (c : Nat) (w : World) : Calls Try.prog 48 #[.bool true, .int .i64 (c : Int)] w fun e w' => e = .returned (.tuple #[]) ∧ w' = w := by
  go_enter Try.func48, Try.ntmps48
  go_wp2
  exact ⟨rfl, .tuple #[], by simp [results, Try.results48, go_sem], rfl, rfl⟩

theorem mask_no (c : Nat) (hc : c ≠ 0) (w : World) : Calls Try.prog 48 #[.bool false, .int .i64 (c : Int)] w fun e w' => e = .panicked (gaveUp (c : Int)) ∧ w' = w := by
  have HM := Lib.hid (fun w => must_bad c w hc)
  clear hc
  go_enter Try.func48, Try.ntmps48
  go_wp2_with fail
  refine (HM.out _).mono ?_
  rintro e w' ⟨rfl, rfl⟩
  exact ⟨rfl, rfl, rfl⟩

/-- A world that is like w in all blocks from B on but, it may be, those of Y. -/
def Like (w : World) (Y : Nat → Prop) (B : Nat) (W : World) : Prop := ∀ k, B ≤ k → k < w.heap.size → ¬ Y k → W.heap[k]? = w.heap[k]?
/-- It holds as long as no such block is written. -/
def Stay (w : World) (Y : Nat → Prop) (B : Nat) (p : World → Prop) : Prop := ∀ W, Like w Y B W → p W
theorem Stay.now {w : World} {Y : Nat → Prop} {B : Nat} {p : World → Prop} (h : Stay w Y B p) : p w := h w fun _ _ _ _ => rfl
theorem Stay.step {w w' : World} {V Y Y' : Nat → Prop} {B : Nat} {p : World → Prop} (h : Stay w Y B p) (ho : OnlyS V w w') (hV : ∀ k, k < w.heap.size → V k → Y k) (hY : ∀ k, k < w.heap.size → Y' k → Y k) : Stay w' Y' B p :=
  fun W hW => h W fun k hB hk hn => (hW k hB (Nat.lt_of_lt_of_le hk ho.size) fun hy => hn (hY k hk hy)).trans (ho.block k hk fun hv => hn (hV k hk hv))
theorem Stay.imp {w : World} {Y : Nat → Prop} {B : Nat} {p q : World → Prop} (h : Stay w Y B p) (hpq : ∀ W, p W → q W) : Stay w Y B q := fun W hW => hpq W (h W hW)
theorem Stay.all {w : World} {Y : Nat → Prop} {B : Nat} {p : World → Prop} (h : ∀ W, p W) : Stay w Y B p := fun W _ => h W

/-- How a call of a hand ends: I tells where it stands, U which blocks are its own. -/
def HEnd {α : Type} (D : Nat) (z : List UInt8 → Nat) (I : World → (Nat → Prop) → List UInt8 → Prop) (U : Nat → Prop) (l : List UInt8) (w : World) (res : Except Nat (α × List UInt8)) (val : α → Value → World → (Nat → Prop) → Prop) (e : Ending) (w' : World) : Prop :=
  OnlyS U w w' ∧ match res with
  | .error c => c ≠ 0 ∧ e = .panicked (gaveUp (c : Int))
  | .ok (x, l') => ∃ y U', e = .returned y ∧ val x y w' U' ∧ I w' U' l' ∧ (∀ k, U' k → U k ∨ w.heap.size ≤ k) ∧ z l' ≤ z l + D

theorem HEnd.bad {α : Type} {D : Nat} {z : List UInt8 → Nat} {I : World → (Nat → Prop) → List UInt8 → Prop} {U : Nat → Prop} {l : List UInt8} {w w' : World} {res : Except Nat (α × List UInt8)} {val : α → Value → World → (Nat → Prop) → Prop} {c : Nat} (hr : res = .error c) (ho : OnlyS U w w') (hc : c ≠ 0) : HEnd D z I U l w res val (.panicked (gaveUp (c : Int))) w' := by
  subst hr
  exact ⟨ho, hc, rfl⟩
theorem HEnd.good {α : Type} {D : Nat} {z : List UInt8 → Nat} {I : World → (Nat → Prop) → List UInt8 → Prop} {U U' : Nat → Prop} {l l' : List UInt8} {w w' : World} {res : Except Nat (α × List UInt8)} {val : α → Value → World → (Nat → Prop) → Prop} {x : α} {y : Value} (hr : res = .ok (x, l')) (ho : OnlyS U w w') (hv : val x y w' U') (hI : I w' U' l') (hU : ∀ k, U' k → U k ∨ w.heap.size ≤ k) (hl : z l' ≤ z l + D) : HEnd D z I U l w res val (.returned y) w' := by
  subst hr
  exact ⟨ho, y, U', rfl, hv, hI, hU, hl⟩
theorem HEnd.err {α : Type} {D : Nat} {z : List UInt8 → Nat} {I : World → (Nat → Prop) → List UInt8 → Prop} {U : Nat → Prop} {l : List UInt8} {w w' : World} {res : Except Nat (α × List UInt8)} {val : α → Value → World → (Nat → Prop) → Prop} {c : Nat} {e : Ending} (h : HEnd D z I U l w res val e w') (hr : res = .error c) : OnlyS U w w' ∧ c ≠ 0 ∧ e = .panicked (gaveUp (c : Int)) := by
  subst hr
  exact h
theorem HEnd.ok {α : Type} {D : Nat} {z : List UInt8 → Nat} {I : World → (Nat → Prop) → List UInt8 → Prop} {U : Nat → Prop} {l l' : List UInt8} {w w' : World} {res : Except Nat (α × List UInt8)} {val : α → Value → World → (Nat → Prop) → Prop} {x : α} {e : Ending} (h : HEnd D z I U l w res val e w') (hr : res = .ok (x, l')) :
    ∃ y U', e = .returned y ∧ OnlyS U w w' ∧ val x y w' U' ∧ I w' U' l' ∧ (∀ k, U' k → U k ∨ w.heap.size ≤ k) ∧ z l' ≤ z l + D := by
  subst hr
  obtain ⟨ho, y, U', h1, h2, h3, h4, h5⟩ := h
  exact ⟨y, U', h1, ho, h2, h3, h4, h5⟩

/-- A number as the answer. -/
def isNum (x : Nat) (y : Value) (_ : World) (_ : Nat → Prop) : Prop := y = .int .u64 (x : Int) ∧ x < 18446744073709551616
def isOct (x : Nat) (y : Value) (_ : World) (_ : Nat → Prop) : Prop := y = .int .u8 (x : Int) ∧ x < 256
def isBool (x : Bool) (y : Value) (_ : World) (_ : Nat → Prop) : Prop := y = .bool x
def isText (F : Prop) (X : Nat → Prop) (B : Nat) (b : List UInt8) (y : Value) (w : World) (U : Nat → Prop) : Prop := Stay w (fun k => U k ∨ X k) B (fun W => Bys W y b ∧ Free F W y b.length) ∧ b.length ≤ 140737488351232
def isEnt (F : Prop) (X : Nat → Prop) (B : Nat) (e : Ent) (y : Value) (w : World) (U : Nat → Prop) : Prop := ∃ a ca b cb, y = .agg (entC e a ca b cb) ∧ Stay w (fun k => U k ∨ X k) B (fun W => Has W e a ca b cb ∧ (F → FreeA W a e.d.length ∧ FreeA W b e.m.length))

/-- A hand in memory: its dynamic type, its value, the receiver and functions of its four methods; from G on the caller may write blocks that aren't its own. -/
structure HandP (H : Hand) (t : TypeId) (v r : Value) (fo fn ft fe : FuncId) (G B : Nat) (z : List UInt8 → Nat) (I : World → (Nat → Prop) → List UInt8 → Prop) (F : Prop) : Prop where
  mo : ∀ (k : Nat) (w : World), 0 < k → (method k t v "tabellion/msg.octet").run Try.prog w = .ok (fo, r) w
  mn : ∀ (k : Nat) (w : World), 0 < k → (method k t v "tabellion/msg.number").run Try.prog w = .ok (fn, r) w
  mt : ∀ (k : Nat) (w : World), 0 < k → (method k t v "tabellion/msg.text").run Try.prog w = .ok (ft, r) w
  me : ∀ (k : Nat) (w : World), 0 < k → (method k t v "tabellion/msg.entry").run Try.prog w = .ok (fe, r) w
  eo : ∀ (args : Array Value) (w : World), (callFunc fo args).run Try.prog w = .ok (.enter fo args) w
  en : ∀ (args : Array Value) (w : World), (callFunc fn args).run Try.prog w = .ok (.enter fn args) w
  et : ∀ (args : Array Value) (w : World), (callFunc ft args).run Try.prog w = .ok (.enter ft args) w
  ee : ∀ (args : Array Value) (w : World), (callFunc fe args).run Try.prog w = .ok (.enter fe args) w
  lt : ∀ {w : World} {U : Nat → Prop} {l : List UInt8}, I w U l → (∀ k, U k → k < w.heap.size) ∧ G ≤ w.heap.size ∧ B ≤ w.heap.size
  keep : ∀ {w w' : World} {U V : Nat → Prop} {l : List UInt8}, I w U l → OnlyS V w w' → (∀ k, k < w.heap.size → V k → G ≤ k ∧ ¬ U k) → I w' U l
  octet : ∀ {w : World} {U : Nat → Prop} {l : List UInt8} (c : Nat), I w U l → c < 256 → z l ≤ 1000000000000 → Calls Try.prog fo #[r, .int .u8 (c : Int)] w (HEnd 20000 z I U l w (H.octet c l) isOct)
  number : ∀ {w : World} {U : Nat → Prop} {l : List UInt8} (n : Nat), I w U l → n < 18446744073709551616 → z l ≤ 1000000000000 → Calls Try.prog fn #[r, .int .u64 (n : Int)] w (HEnd 20000 z I U l w (H.number n l) isNum)
  text : ∀ {w : World} {U : Nat → Prop} {l : List UInt8} (X : Nat → Prop) (x : Value) (b : List UInt8) (most : Nat), I w U l → (∀ k, X k → k < w.heap.size) → isText False X B b x w U → most ≤ 16384 → z l ≤ 1000000000000 → Calls Try.prog ft #[r, x, .int .i64 (most : Int)] w (HEnd 20000 z I U l w (H.text most b l) (isText F X B))
  entry : ∀ {w : World} {U : Nat → Prop} {l : List UInt8} (X : Nat → Prop) (e : Ent) (x : Value), I w U l → (∀ k, X k → k < w.heap.size) → isEnt False X B e x w U → z l ≤ 1000000000000 → Calls Try.prog fe #[r, x] w (HEnd 20000 z I U l w (H.entry e l) (isEnt F X B))

section
variable {H : Hand} {t : TypeId} {v r : Value} {fo fn ft fe : FuncId} {G B : Nat} {z : List UInt8 → Nat} {I : World → (Nat → Prop) → List UInt8 → Prop} {F : Prop}

/-- A number in a range. -/
def isIn (lo hi : Nat) (x : Nat) (y : Value) (_ : World) (_ : Nat → Prop) : Prop := y = .int .u64 (x : Int) ∧ x < 18446744073709551616 ∧ lo ≤ x ∧ x ≤ hi

set_option maxHeartbeats 1000000 in
theorem within_any (hp : HandP H t v r fo fn ft fe G B z I F) {w : World} {U : Nat → Prop} {l : List UInt8} (n lo hi : Nat) (hI : I w U l) (hn : n < 18446744073709551616) (hl : z l ≤ 1000000000000) :
    Calls Try.prog 49 #[.iface t v, .int .u64 (n : Int), .int .u64 (lo : Int), .int .u64 (hi : Int)] w (HEnd 20000 z I U l w (MsgMath.withinH H n lo hi l) (isIn lo hi)) := by
  have HN := Lib.hid (hp.number n hI hn hl)
  have mn := hp.mn
  have en := hp.en
  clear hI hn hl
  cases hr : H.number n l with
  | error c =>
    have HE := Lib.hid (show MsgMath.withinH H n lo hi l = .error c from MsgMath.bindP_err hr)
    have HR := Lib.hid hr
    clear hr
    go_enter Try.func49, Try.ntmps49
    go_wp2_with fail
    refine HN.out.mono ?_
    intro e w1 h
    obtain ⟨ho, hc, rfl⟩ := h.err HR.out
    exact ⟨rfl, HEnd.bad HE.out ho hc⟩
  | ok p =>
    obtain ⟨x, q⟩ := p
    by_cases hlo : lo ≤ x
    · by_cases hhi : x ≤ hi
      · have HE := Lib.hid (show MsgMath.withinH H n lo hi l = .ok (x, q) by rw [MsgMath.withinH, MsgMath.bindP_ok hr, if_pos ⟨hlo, hhi⟩]; rfl)
        have HR := Lib.hid hr
        clear hr
        go_enter Try.func49, Try.ntmps49
        go_wp2_with fail
        refine HN.out.mono ?_
        intro e w1 h
        obtain ⟨y, U', rfl, ho, ⟨rfl, hx⟩, hI', hU, hl'⟩ := h.ok HR.out
        have HG := Lib.hid (HEnd.good (val := isIn lo hi) HE.out ho ⟨rfl, hx, hlo, hhi⟩ hI' hU hl')
        clear h ho hx hI' hU hl'
        go_wp2_with fail
        refine (mask_yes 3 _).mono ?_
        rintro e w2 ⟨rfl, rfl⟩
        go_wp2
        go_ret
        exact HG.out
      · have HE := Lib.hid (show MsgMath.withinH H n lo hi l = .error 3 by rw [MsgMath.withinH, MsgMath.bindP_ok hr, if_neg (fun h => hhi h.2)]; rfl)
        have HR := Lib.hid hr
        clear hr
        go_enter Try.func49, Try.ntmps49
        go_wp2_with fail
        refine HN.out.mono ?_
        intro e w1 h
        obtain ⟨y, U', rfl, ho, ⟨rfl, hx⟩, -, -, -⟩ := h.ok HR.out
        have HG := Lib.hid ho
        clear h ho hx
        go_wp2_with fail
        refine (mask_no 3 (by decide) _).mono ?_
        rintro e w2 ⟨rfl, rfl⟩
        exact ⟨rfl, HEnd.bad HE.out HG.out (by decide)⟩
    · have HE := Lib.hid (show MsgMath.withinH H n lo hi l = .error 3 by rw [MsgMath.withinH, MsgMath.bindP_ok hr, if_neg (fun h => hlo h.1)]; rfl)
      have HR := Lib.hid hr
      clear hr
      go_enter Try.func49, Try.ntmps49
      go_wp2_with fail
      refine HN.out.mono ?_
      intro e w1 h
      obtain ⟨y, U', rfl, ho, ⟨rfl, hx⟩, -, -, -⟩ := h.ok HR.out
      have HG := Lib.hid ho
      clear h ho hx
      go_wp2_with fail
      refine (mask_no 3 (by decide) _).mono ?_
      rintro e w2 ⟨rfl, rfl⟩
      exact ⟨rfl, HEnd.bad HE.out HG.out (by decide)⟩

theorem place_any (hp : HandP H t v r fo fn ft fe G B z I F) {w : World} {U : Nat → Prop} {l : List UInt8} (n : Nat) (hI : I w U l) (hn : n < 18446744073709551616) (hl : z l ≤ 1000000000000) :
    Calls Try.prog 50 #[.iface t v, .int .u64 (n : Int)] w (HEnd 20000 z I U l w (MsgMath.withinH H n 0 MsgMath.MT l) (isIn 0 MsgMath.MT)) := by
  have HN := Lib.hid (within_any hp n 0 MsgMath.MT hI hn hl)
  clear hI hn hl
  cases hr : MsgMath.withinH H n 0 MsgMath.MT l with
  | error c =>
    have HR := Lib.hid hr
    clear hr
    go_enter Try.func50, Try.ntmps50
    go_wp2_with fail
    refine HN.out.mono ?_
    intro e w1 h
    obtain ⟨ho, hc, rfl⟩ := h.err HR.out
    exact ⟨rfl, HEnd.bad rfl ho hc⟩
  | ok p =>
    obtain ⟨x, q⟩ := p
    have HR := Lib.hid hr
    clear hr
    go_enter Try.func50, Try.ntmps50
    go_wp2_with fail
    refine HN.out.mono ?_
    intro e w1 h
    obtain ⟨y, U', rfl, ho, hv, hI', hU, hl'⟩ := h.ok HR.out
    obtain ⟨rfl, hx⟩ := hv
    have HG := Lib.hid (HEnd.good (val := isIn 0 MsgMath.MT) rfl ho ⟨rfl, hx⟩ hI' hU hl')
    clear h ho hx hI' hU hl'
    go_wp2
    go_ret
    exact HG.out

set_option maxHeartbeats 1000000 in
theorem yes_any (hp : HandP H t v r fo fn ft fe G B z I F) {w : World} {U : Nat → Prop} {l : List UInt8} (y : Bool) (hI : I w U l) (hl : z l ≤ 1000000000000) :
    Calls Try.prog 51 #[.iface t v, .bool y] w (HEnd 20000 z I U l w (MsgMath.yesH H y l) isBool) := by
  have HN := Lib.hid (hp.octet (if y = true then 1 else 0) hI (by split <;> decide) hl)
  have mo := hp.mo
  have eo := hp.eo
  clear hI hl
  cases hr : H.octet (if y = true then 1 else 0) l with
  | error c =>
    have HE := Lib.hid (show MsgMath.yesH H y l = .error c from MsgMath.bindP_err hr)
    have HR := Lib.hid hr
    clear hr
    go_enter Try.func51, Try.ntmps51
    cases y <;>
    · go_wp2_with fail
      refine HN.out.mono ?_
      intro e w1 h
      obtain ⟨ho, hc, rfl⟩ := h.err HR.out
      exact ⟨rfl, HEnd.bad HE.out ho hc⟩
  | ok p =>
    obtain ⟨x, q⟩ := p
    by_cases hx1 : x ≤ 1
    · have HE := Lib.hid (show MsgMath.yesH H y l = .ok (decide (x = 1), q) by rw [MsgMath.yesH, MsgMath.bindP_ok hr, if_pos hx1]; rfl)
      have HR := Lib.hid hr
      clear hr
      go_enter Try.func51, Try.ntmps51
      cases y <;>
      · go_wp2_with fail
        refine HN.out.mono ?_
        intro e w1 h
        obtain ⟨z, U', rfl, ho, ⟨rfl, hx⟩, hI', hU, hl'⟩ := h.ok HR.out
        have HG := Lib.hid (HEnd.good (val := isBool) HE.out ho rfl hI' hU hl')
        clear h ho hx hI' hU hl'
        go_wp2_with fail
        rw [show decide ((x : Int) ≤ 1) = true from decide_eq_true (by omega)]
        refine (mask_yes 3 _).mono ?_
        rintro e w2 ⟨rfl, rfl⟩
        rcases (show x = 0 ∨ x = 1 by omega) with rfl | rfl
        · go_wp2
          go_ret
          exact HG.out
        · go_wp2
          go_ret
          exact HG.out
    · have HE := Lib.hid (show MsgMath.yesH H y l = .error 3 by rw [MsgMath.yesH, MsgMath.bindP_ok hr, if_neg hx1]; rfl)
      have HR := Lib.hid hr
      clear hr
      go_enter Try.func51, Try.ntmps51
      cases y <;>
      · go_wp2_with fail
        refine HN.out.mono ?_
        intro e w1 h
        obtain ⟨z, U', rfl, ho, ⟨rfl, hx⟩, -, -, -⟩ := h.ok HR.out
        have HG := Lib.hid ho
        clear h ho hx
        go_wp2_with fail
        rw [show decide ((x : Int) ≤ 1) = false from decide_eq_false (by omega)]
        refine (mask_no 3 (by decide) _).mono ?_
        rintro e w2 ⟨rfl, rfl⟩
        exact ⟨rfl, HEnd.bad HE.out HG.out (by decide)⟩
end
end Go.Proofs.Ytgbhfolbkgibfaa

/- Layer 18: lists that are made and copied onto, told by their blocks. -/
namespace Go.Proofs.Ytgbhfolbkgibfaa
set_option maxRecDepth 20000
open Go.RowKit Go.Maps BinMath CmdMath
open MsgMath (Mg Hand fillE fillN)

theorem made_blk {w : World} {B e g n size : Nat} {xs : List Value} (h : w.ownsRow B e size (.slice (some ⟨g, 0, none⟩) n n) n xs) : Blk w g e xs.toArray := by
  rcases h.2 with ⟨h0, _⟩ | ⟨g', cap, cur, hv, _, hg, _, _, hs, ht⟩
  · cases h0
  · simp only [Value.slice.injEq, Option.some.injEq, Addr.mk.injEq] at hv
    obtain ⟨⟨rfl, -, -⟩, -, rfl⟩ := hv
    have e : xs = cur.toList := by
      rw [← ht, ← hs]
      exact List.take_of_length_le (by simp)
    subst e
    exact hg

theorem wpList_make_blk {P : Program} {w : World} {ops : Array Oper} {rest : List Oper} {o : Oper} {a : Act} {Q : Exit → Act → World → Prop}
    (hg : o.guard = none) (l c : Operand) (t : TypeId) (hop : o.op = Op.makeSlice t l c)
    (e : TypeId) (i : TypeInfo) (z : Value) (size : Nat) (h1 : P.underlying t = some (.slice e)) (h2 : P.info? e = some i) (h3 : i.zero = some z) (h4 : i.size = size)
    (kl kc : IntKind) (n : Nat) (hl : a.eval l = .int kl (n : Int)) (hc : a.eval c = .int kc (n : Int)) (b2 : i.bytes * n ≤ 281474976710656) (b3 : n ≤ maxLen) (xs : List Value) (hxs : (madeCells z.cells (n * size)).toList = xs)
    (hK : ∀ w', Blk w' w.heap.size e xs.toArray → Below w.heap.size w w' → wpList P ops Q rest (a.put o.dst (.slice (some ⟨w.heap.size, 0, none⟩) n n)) w') :
    wpList P ops Q (o :: rest) a w := by
  subst hxs
  refine wpList_make_full w hg l c t hop w.heap.size e i z size h1 h2 h3 h4 kl kc _ _ n hl hc rfl rfl b2 b3 (Nat.le_refl _) fun w' hown hgrow => ?_
  exact hK w' (made_blk hown) ((Below.refl _ w).grown hgrow (Nat.le_refl _) (by simp))

theorem wpList_copy_blk {P : Program} {w : World} {ops : Array Oper} {rest : List Oper} {o : Oper} {a : Act} {Q : Exit → Act → World → Prop} (hgd : o.guard = none) (d s : Operand) (dT sT : TypeId)
    (ho : o.op = .call { callee := .builtin .copy, args := #[d, s], argTypes := #[dT, sT] }) (elem : TypeId) (hu : P.underlying dT = some (.slice elem)) (size : Nat) (hsz : (P.info? elem).map (·.size) = some size) (hsp : 0 < size)
    (g n c : Nat) (sp : Option Addr) (sLen sCap : Nat) (hd : a.eval d = .slice (some ⟨g, 0, none⟩) n c) (hs : a.eval s = .slice sp sLen sCap)
    (cur : List Value) (hg : Blk w g elem cur.toArray) (cs : List Value) (hn : cs.length = Nat.min sLen n * size)
    (hpos : 0 < cs.length → ∃ ad, sp = some ad ∧ ∀ j v, cs[j]? = some v → w.cell? (ad.add j) = some v)
    (hfit : cs.length ≤ cur.length) (h1 : ∀ v ∈ cs, v.oneCell' = true) (ys : List Value) (hys : cs ++ cur.drop cs.length = ys)
    (h : ∀ w', Blk w' g elem ys.toArray → OnlyS (fun k => k = g) w w' → wpList P ops Q rest (a.put o.dst (goInt (Nat.min sLen n))) w') :
    wpList P ops Q (o :: rest) a w := by
  subst hys
  have hrun : ∃ w', (Builtin.copy_ #[dT, sT] o.type #[.slice (some ⟨g, 0, none⟩) n c, .slice sp sLen sCap]).run P w = .ok (goInt (Nat.min sLen n)) w' ∧ Blk w' g elem (cs ++ cur.drop cs.length).toArray ∧ OnlyS (fun k => k = g) w w' := by
    cases hq : P.info? elem with
    | none => simp [hq] at hsz
    | some i =>
      have hi : i.size = size := by simpa [hq] using hsz
      by_cases h0 : cs.length = 0
      · obtain rfl : cs = [] := List.eq_nil_of_length_eq_zero h0
        have hm : Nat.min sLen n = 0 := by
          rcases Nat.mul_eq_zero.1 (hn.symm.trans rfl) with h | h
          · exact h
          · omega
        refine ⟨w, ?_, by simpa using hg, OnlyS.refl _ _⟩
        have hm' : (min sLen n : Nat) = 0 := hm
        cases sp with
        | none => simp [Builtin.copy_, run_underlying hu, Builtin.lenOf, Builtin.firstCells, sizeOf, typeInfo, hq, hm, storeCells]
        | some ad => simp [Builtin.copy_, run_underlying hu, Builtin.lenOf, Builtin.firstCells, sizeOf, typeInfo, hq, hm, storeCells, loadCells, loadCellsFrom]
      · obtain ⟨ad, rfl, hsrc⟩ := hpos (by omega)
        have hl := run_firstCells_some (P := P) w i.size (Nat.min sLen n) ad sLen sCap cs (by rw [hi]; exact hn) hsrc
        have hst := run_storeCells_at P g 0 elem cs 0 cur.toArray w hg (by simpa using hfit) h1
        refine ⟨w.setRow g (cs ++ cur.drop cs.length).toArray, ?_, hg.row _, setRow_onlyS _ _ _⟩
        simp only [Nat.add_zero, Nat.zero_add, List.take_zero, List.nil_append] at hst
        simp [Builtin.copy_, run_underlying hu, Builtin.lenOf, sizeOf, typeInfo, hq, hl, hst]
  obtain ⟨w', hrun, hb, hos⟩ := hrun
  refine wpList_plain hgd fun K hK => ?_
  unfold Oper.wp
  simp [execOp, ho, resolve, invoke, builtin, hd, hs, hrun, Result.andThen]
  exact hK _ _ (h w' hb hos)

/-- The entry that is nothing, as one of a list. -/
def zeroEE : EE := ⟨Ent.zero, none, 0, none, 0⟩
def fillU (n : Nat) (us : List EE) : List EE := (us ++ List.replicate n zeroEE).take n
theorem fillU_len (n : Nat) (us : List EE) : (fillU n us).length = n := by simp [fillU]
theorem fillU_ents (n : Nat) (us : List EE) : (fillU n us).map EE.e = fillE n (us.map EE.e) := by
  simp [fillU, fillE, List.map_take, List.map_append, zeroEE]
theorem fillU_has {n : Nat} {us : List EE} {w : World} (h : HasAll w us) : HasAll w (fillU n us) := fun u hu => by
  rcases List.mem_append.1 (List.mem_of_mem_take hu) with hu | hu
  · exact h u hu
  · rw [(List.mem_replicate.1 hu).2]
    exact Has.zero w

theorem made_ents (n : Nat) (hn : n ≤ 4) : (madeCells (Value.agg zeroC).cells (n * 6)).toList = (List.replicate n zeroEE).flatMap EE.cells := by
  rcases (show n = 0 ∨ n = 1 ∨ n = 2 ∨ n = 3 ∨ n = 4 by omega) with rfl | rfl | rfl | rfl | rfl <;> simp [madeCells, Value.cells, zeroC, EE.cells, zeroEE, entC, Ent.zero, Array.range_succ, List.replicate_succ]

theorem fill_cells (n : Nat) (us : List EE) : (us.take n).flatMap EE.cells ++ ((List.replicate n zeroEE).flatMap EE.cells).drop ((us.take n).flatMap EE.cells).length = (fillU n us).flatMap EE.cells := by
  rw [cells_all, cells_drop, ← List.flatMap_append]
  congr 1
  rw [List.length_take, fillU, List.take_append, List.drop_replicate, List.take_replicate]
  congr 2
  omega

theorem fill_nums (n : Nat) (l : List Nat) : (l.take n).map uv ++ ((List.replicate n 0).map uv).drop ((l.take n).map uv).length = (fillN n l).map uv := by
  rw [List.length_map, ← List.map_drop, ← List.map_append]
  congr 1
  rw [List.length_take, fillN, List.take_append, List.drop_replicate, List.take_replicate]
  congr 2
  omega

/-- The first k of a block of numbers. -/
theorem Blk.nums {w : World} {g n k : Nat} {l : List Nat} (h : Blk w g 31 (l.map uv).toArray) (hn : l.length = n) (hk : k ≤ n) : Nums w (.slice (some ⟨g, 0, none⟩) k n) (l.take k) := by
  refine .inr ⟨⟨g, 0, none⟩, n, by rw [List.length_take, Nat.min_eq_left (by omega)], by rw [List.length_take]; omega, fun i hi => ?_⟩
  have hil : i < l.length := by rw [List.length_take] at hi; omega
  rw [addr_add, Nat.zero_add, h.cell]
  simp [hil, uv]

theorem Nums.cellsTo {w : World} {a : Option Addr} {n cap : Nat} {l : List Nat} (h : Nums w (.slice a n cap) l) (k : Nat) : 0 < ((l.take k).map uv).length → ∃ ad, a = some ad ∧ ∀ j v, ((l.take k).map uv)[j]? = some v → w.cell? (ad.add j) = some v := fun hp => by
  rcases h with ⟨h1, rfl⟩ | ⟨ad, c, h1, _, hc⟩
  · simp at hp
  · cases h1
    refine ⟨ad, rfl, fun j v hj => ?_⟩
    have hj2 := (List.getElem?_eq_some_iff.1 hj).1
    rw [List.length_map, List.length_take] at hj2
    have hjl : j < l.length := by omega
    rw [hc j hjl]
    have h3 := (List.getElem?_eq_some_iff.1 hj).2
    simp only [List.getElem_map, List.getElem_take] at h3
    rw [← h3]
    rfl

theorem Els.cellsTo {w : World} {a : Option Addr} {n cap : Nat} {us : List EE} (h : Els w (.slice a n cap) us) (k : Nat) : 0 < ((us.take k).flatMap EE.cells).length → ∃ ad, a = some ad ∧ ∀ j v, ((us.take k).flatMap EE.cells)[j]? = some v → w.cell? (ad.add j) = some v := fun hp => by
  rcases h with ⟨h1, rfl⟩ | ⟨ad, c, h1, _, hc⟩
  · simp at hp
  · cases h1
    refine ⟨ad, rfl, fun j v hj => hc j v ?_⟩
    rw [← cells_take, List.getElem?_take] at hj
    split at hj
    · exact hj
    · cases hj

theorem slice_nums_to (a : Option Addr) (n c k : Nat) (hk : k ≤ c) (W : World) : (Instr.sliceAt 33 (.slice a n c) none (some (.int .i64 (k : Int))) none).run Try.prog W = .ok (.slice a k c) W := by
  have he : Try.prog.elem 33 = 31 := by kernel_rfl
  have hs : (Go.sizeOf 31).run Try.prog W = .ok 1 W := by kernel_rfl
  have ht : Try.prog.underlying 33 = some (.slice (Try.prog.elem 33)) := by rw [he]; exact Try.underlying33
  rw [run_sliceAt_slice _ _ _ _ _ _ ht, run_slice_h _ _ _ _ _ ht .i64 (k : Int) (by omega) (by omega), he, hs]
  cases a with
  | none => simp [Result.andThen, sliced]
  | some ad => simp [Result.andThen, sliced, Addr.add]
end Go.Proofs.Ytgbhfolbkgibfaa

/- Layer 18: members that go through a hand. -/
namespace Go.Proofs.Ytgbhfolbkgibfaa
set_option maxRecDepth 20000
open Go.RowKit Go.Maps BinMath CmdMath
open MsgMath (Mg Hand fillE fillN idsH membersH withinH)

/-- How much k calls of a hand may lay down. -/
def grew : Nat → Nat
  | 0 => 0
  | k + 1 => grew k + 20000
theorem grew_le : ∀ (n k : Nat), k ≤ n → grew k ≤ grew n
  | n, 0, _ => Nat.zero_le _
  | 0, k + 1, h => absurd h (by omega)
  | n + 1, k + 1, h => Nat.add_le_add_right (grew_le n k (by omega)) 20000

def isNums (F : Prop) (X : Nat → Prop) (B : Nat) (ms : List Nat) (y : Value) (w : World) (U : Nat → Prop) : Prop := Stay w (fun k => U k ∨ X k) B (fun W => Nums W y ms ∧ Free F W y ms.length) ∧ (∀ x ∈ ms, x < 18446744073709551616) ∧ ms.length ≤ 7

/-- In the midst of the members: those that went through, and those that are left. -/
structure NAt (H : Hand) (z : List UInt8 → Nat) (I : World → (Nat → Prop) → List UInt8 → Prop) (U : Nat → Prop) (l : List UInt8) (w : World) (g n : Nat) (res : Except Nat (List Nat × List UInt8)) (d rest : List Nat) (U' : Nat → Prop) (l' : List UInt8) (wr : World) : Prop where
  len : d.length + rest.length = n
  blk : Blk wr g 31 ((d ++ rest).map uv).toArray
  hand : I wr U' l'
  gu : ¬ U' g
  only : OnlyS U w wr
  sub : ∀ k, U' k → U k ∨ w.heap.size ≤ k
  okd : ∀ x ∈ d, x < 18446744073709551616
  okr : ∀ x ∈ rest, x < 18446744073709551616
  ll : z l' ≤ z l + grew (d.length + 1)
  res : res = idsH H d rest l'

section
variable {H : Hand} {t : TypeId} {v r : Value} {fo fn ft fe : FuncId} {G B : Nat} {z : List UInt8 → Nat} {I : World → (Nat → Prop) → List UInt8 → Prop} {F : Prop}

theorem NAt.next (hp : HandP H t v r fo fn ft fe G B z I F) {U U' U2 : Nat → Prop} {l l' q : List UInt8} {w wr w4 w5 : World} {g n x y : Nat} {res : Except Nat (List Nat × List UInt8)} {d rest : List Nat} (h : NAt H z I U l w g n res d (x :: rest) U' l' wr)
    (hg : w.heap.size ≤ g) (hG : G ≤ g) (hr : H.number x l' = .ok (y, q)) (hy : y < 18446744073709551616) (ho : OnlyS U' wr w4) (hI : I w4 U2 q) (hU : ∀ k, U2 k → U' k ∨ wr.heap.size ≤ k) (hq : z q ≤ z l' + 20000) (hm : memOk (d ++ [y]) = true)
    (e5 : w5 = w4.setCell ⟨g, d.length, none⟩ (.int .u64 (y : Int))) : NAt H z I U l w g n res (d ++ [y]) rest U2 q w5 := by
  subst e5
  have hgl := h.blk.lt
  have hos : OnlyS (fun b => b = g) w4 (w4.setCell ⟨g, d.length, none⟩ (.int .u64 (y : Int))) := (OnlyS.refl (fun b => b = g) _).setCell (p := ⟨g, d.length, none⟩) (fun _ => rfl) _
  have hg2 : ¬ U2 g := fun e => by
    rcases hU g e with e | e
    · exact h.gu e
    · omega
  have hb4 := h.blk.onlyS ho h.gu
  refine ⟨?_, ?_, hp.keep hI hos (fun k _ e => by have e : k = g := e; subst e; exact ⟨hG, hg2⟩), hg2, ?_, fun k hk => ?_, fun z hz => ?_, fun z hz => h.okr z (List.mem_cons_of_mem _ hz), ?_, ?_⟩
  · have := h.len
    simp only [List.length_cons, List.length_append, List.length_nil] at this ⊢
    omega
  · have hs := hb4.set d.length (uv y)
    have e : (((d ++ x :: rest).map uv).toArray).setIfInBounds d.length (uv y) = ((d ++ [y] ++ rest).map uv).toArray := by
      apply Array.ext'
      simp
    rw [e] at hs
    exact hs
  · refine (h.only.then ho (fun k hk hu => ?_)).then hos (fun k hk e => by have e : k = g := e; omega)
    exact (h.sub k hu).resolve_right (by omega)
  · rcases hU k hk with hk | hk
    · exact h.sub k hk
    · exact .inr (Nat.le_trans h.only.size hk)
  · rcases List.mem_append.1 hz with hz | hz
    · exact h.okd z hz
    · rw [List.mem_singleton.1 hz]; exact hy
  · rw [List.length_append]
    exact Nat.le_trans hq (Nat.le_trans (Nat.add_le_add_right h.ll 20000) (Nat.le_of_eq (Nat.add_assoc _ _ _)))
  · rw [h.res, idsH, MsgMath.bindP_ok hr, if_pos hm]

set_option maxHeartbeats 4000000 in
theorem hmembers_any (hp : HandP H t v r fo fn ft fe G B z I F) {w : World} {U : Nat → Prop} {l : List UInt8} (X : Nat → Prop) (vm : Value) (ids : List Nat) (hI : I w U l) (hX : ∀ k, X k → k < w.heap.size) (hm : Stay w (fun k => U k ∨ X k) B (fun W => Nums W vm ids)) (hlen : ids.length ≤ 140737488351232) (hok : ∀ x ∈ ids, x < 18446744073709551616) (hl : z l ≤ 900000000000) :
    Calls Try.prog 53 #[.iface t v, vm] w (HEnd 200000 z I U l w (membersH H ids l) (isNums F X B)) := by
  obtain ⟨i0, hi, hz0, hz1, hz2⟩ := info_parts info_num
  obtain ⟨a, cap, rfl⟩ := hm.now.shape
  obtain ⟨L, hL⟩ : ∃ L, L = ids.length := ⟨_, rfl⟩
  rw [← hL] at hm ⊢
  have hLl : L ≤ 140737488351232 := by omega
  have hlt := hp.lt hI
  have HN := Lib.hid (within_any hp L 1 7 hI (by omega) (by omega))
  have HLen := Lib.hid hL
  have HM := Lib.hid hm
  have HOk := Lib.hid hok
  have HX := Lib.hid hX
  have HLt := Lib.hid hlt
  have mn := hp.mn
  have en := hp.en
  have HLl := Lib.hid hl
  have hcv := fun W => conv_len L (by omega) W
  clear hI hm hlen hlt hX hok hL hl
  cases hr : withinH H L 1 7 l with
  | error c =>
    have HE := Lib.hid (show membersH H ids l = .error c by rw [membersH, ← HLen.out]; exact MsgMath.bindP_err hr)
    have HR := Lib.hid hr
    clear hr
    go_enter Try.func53, Try.ntmps53
    go_wp2_with fail
    refine HN.out.mono ?_
    intro e w1 h
    obtain ⟨ho, hc, rfl⟩ := h.err HR.out
    exact ⟨rfl, HEnd.bad HE.out ho hc⟩
  | ok p =>
    obtain ⟨n, q⟩ := p
    have HE := Lib.hid (show membersH H ids l = idsH H [] (fillN n ids) q by rw [membersH, ← HLen.out, MsgMath.bindP_ok hr])
    have HR := Lib.hid hr
    clear hr
    go_enter Try.func53, Try.ntmps53
    go_wp2_with fail
    refine HN.out.mono ?_
    intro e w1 h
    obtain ⟨y, U1, rfl, ho, ⟨rfl, -, hn1, hn7⟩, hI1, hU1, hq⟩ := h.ok HR.out
    have HV := Lib.hid ((HM.out.step ho (fun k _ hu => .inl hu) (Y' := fun k => U k ∨ X k) (fun k _ hu => hu)).now)
    have HO := Lib.hid ho
    have HI := Lib.hid hI1
    have HU := Lib.hid hU1
    have HQ := Lib.hid hq
    have hsz : w.heap.size ≤ w1.heap.size := ho.size
    clear h ho hI1 hU1 hq
    obtain ⟨g, hg⟩ : ∃ g, g = w1.heap.size := ⟨_, rfl⟩
    have HGq := Lib.hid hg
    clear hg
    go_wp2_with (first
      | (at_make; refine wpList_make_blk rfl _ _ 33 rfl 31 i0 (.int .u64 0) 1 Try.underlying33 hi hz0 hz1 _ _ n rfl rfl (by rw [hz2]; omega) (by unfold maxLen; omega) ((List.replicate n 0).map uv) (made_nums n) ?_; intro w2 hb2 hw2; rw [← HGq.out] at hb2 ⊢; (have HB2 := Lib.hid hb2); (have HW2 := Lib.hid hw2); (have HV2 := Lib.hid (HV.out.below (Nat.le_refl _) hw2)); clear hb2 hw2)
      | (refine wpList_copy_blk rfl (.tmp 16) (.tmp 17) 33 33 rfl 31 Try.underlying33 1 (by kernel_rfl) (by decide) g n n a L cap rfl rfl ((List.replicate n 0).map uv) HB2.out ((ids.take n).map uv) (by rw [List.length_map, List.length_take, ← HLen.out, Nat.mul_one, Nat.min_comm]) (HV2.out.cellsTo n) (by rw [List.length_map, List.length_map, List.length_take, List.length_replicate]; omega) (fun u hu => by obtain ⟨z, -, rfl⟩ := List.mem_map.1 hu; rfl) ((fillN n ids).map uv) (fill_nums n ids) ?_; intro w3 hb3 hw3; (have HB3 := Lib.hid hb3); (have HW3 := Lib.hid hw3); clear hb3 hw3))
    have hg := HGq.out
    have hgw : w.heap.size ≤ g := by omega
    have hGg : G ≤ g := by have := HLt.out.2.1; omega
    have hBg : B ≤ g := by have := HLt.out.2.2; omega
    have hU1g : ¬ U1 g := fun e => by have := (hp.lt HI.out).1 g e; omega
    have h0 : NAt H z I U l w g n (membersH H ids l) [] (fillN n ids) U1 q w3 := by
      refine ⟨by rw [MsgMath.fillN_len]; simp, by rw [List.nil_append]; exact HB3.out, ?_, hU1g, ?_, HU.out, by simp, fun x hx => ?_, HQ.out, HE.out⟩
      · refine hp.keep (hp.keep (V := fun _ => False) HI.out (OnlyS.of_below HW2.out fun k hk _ => hk) (fun k _ e => e.elim)) HW3.out (fun k _ e => by have e : k = g := e; subst e; exact ⟨hGg, hU1g⟩)
      · exact (HO.out.then (OnlyS.of_below (S := fun _ => False) HW2.out fun k hk _ => hk) (fun k _ e => e.elim)).then HW3.out (fun k hk e => by have e : k = g := e; omega)
      · rcases List.mem_append.1 (List.mem_of_mem_take hx) with hx | hx
        · exact HOk.out x hx
        · rw [(List.mem_replicate.1 hx).2]; decide
    have H0 := Lib.hid h0
    clear h0 hg HGq HB3 HW3 HB2 HW2 HV2 HV HO HI HU HQ hU1g HN
    go_wp2
    go_loopw [21] (fun s21 wr => ∃ (d rest : List Nat) (U' : Nat → Prop) (l' : List UInt8), s21 = .int .i64 (d.length : Int) ∧ NAt H z I U l w g n (membersH H ids l) d rest U' l' wr) (fun s21 _ => n - (intOf s21).toNat)
    case atStart => exact ⟨[], fillN n ids, U1, q, rfl, H0.out⟩
    case round =>
      clear H0
      obtain ⟨d, rest, U', l', rfl, hat⟩ := hrel
      have HAt := Lib.hid hat
      obtain ⟨i, hi'⟩ : ∃ i, i = d.length := ⟨_, rfl⟩
      rw [← hi']
      have HIl := Lib.hid hi'
      cases rest with
      | nil =>
        have hin : i = n := by have := hat.len; simp at this; omega
        subst hin
        have hres := hat.res
        have hbl := hat.blk
        rw [List.append_nil] at hbl
        have hd : d.length ≤ 7 := by omega
        have HG := Lib.hid (HEnd.good (D := 200000) (z := z) (l := l) (val := isNums F X B) (x := d) (y := .slice (some ⟨g, 0, none⟩) i i) (show membersH H ids l = .ok (d, l') from hres) hat.only ⟨fun W hW => by
            have hb : Blk W g 31 (d.map uv).toArray := by
              have h2 := hW g hBg hbl.lt (fun e => e.elim hat.gu fun e => by have := HX.out g e; omega)
              unfold Blk at *
              rw [h2]
              exact hbl
            have h3 := hb.nums hi'.symm (Nat.le_refl i)
            rw [List.take_of_length_le (by omega)] at h3
            exact ⟨h3, free_of (freeA_blk hb _)⟩, hat.okd, hd⟩ hat.hand hat.sub (by have h1 := hat.ll; have h2 := grew_le 8 (d.length + 1) (by omega); have h3 : grew 8 = 160000 := rfl; omega))
        clear hat hres hbl hd hi' HAt HIl
        go_wp2
        go_ret
        exact HG.out
      | cons x rest =>
        have hin : i < n := by have := hat.len; simp at this; omega
        have hgl := hat.blk.lt
        have hx64 := hat.okr x List.mem_cons_self
        have HN2 := Lib.hid (hp.number x hat.hand hx64 (by have h1 := hat.ll; have h2 := grew_le 8 (d.length + 1) (by omega); have h3 : grew 8 = 160000 := rfl; have := HLl.out; omega))
        have k0 : wr.cell? ⟨g, i, none⟩ = some (.int .u64 (x : Int)) := by
          rw [hat.blk.cell]
          simp [hi', uv]
        cases hx : H.number x l' with
        | error c =>
          have HR2 := Lib.hid hx
          have HE2 := Lib.hid (show membersH H ids l = .error c by rw [hat.res, idsH]; exact MsgMath.bindP_err hx)
          clear hat hx hi'
          go_wp2_with fail
          refine HN2.out.mono ?_
          intro e w4 h
          obtain ⟨ho, hc, rfl⟩ := h.err HR2.out
          exact ⟨rfl, HEnd.bad HE2.out (HAt.out.only.then ho (fun k hk hu => (HAt.out.sub k hu).resolve_right (by omega))) hc⟩
        | ok p =>
          obtain ⟨y, q2⟩ := p
          have HR2 := Lib.hid hx
          clear hat hx hi'
          go_wp2_with fail
          refine HN2.out.mono ?_
          intro e w4 h
          obtain ⟨y', U2, rfl, ho, ⟨rfl, hy⟩, hI2, hU2, hq2⟩ := h.ok HR2.out
          have hb4 := HAt.out.blk.onlyS ho HAt.out.gu
          have hcell : w4.cell? ⟨g, i, none⟩ = some (.int .u64 (x : Int)) := by
            rw [hb4.cell]
            simp [HIl.out, uv]
          have hfree : w4.frozen? ⟨g, i, none⟩ = false := hb4.frozen i
          have hnat := fun hm => HAt.out.next hp hgw hGg HR2.out hy ho hI2 hU2 hq2 hm rfl
          rw [← HIl.out] at hnat
          have HNat := Lib.hid hnat
          have hos4 := HAt.out.only.then ho (fun k hk hu => (HAt.out.sub k hu).resolve_right (by omega))
          have HO5 := Lib.hid (hos4.then ((OnlyS.refl (fun b => b = g) w4).setCell (p := ⟨g, i, none⟩) (fun _ => rfl) (.int .u64 (y : Int))) (fun k hk e => by have e : k = g := e; omega))
          have hnums : Nums (w4.setCell ⟨g, i, none⟩ (.int .u64 (y : Int))) (.slice (some ⟨g, 0, none⟩) (i + 1) n) (d ++ [y]) := by
            have hs := hb4.set i (uv y)
            have e : (((d ++ x :: rest).map uv).toArray).setIfInBounds i (uv y) = ((d ++ [y] ++ rest).map uv).toArray := by
              apply Array.ext'
              simp [HIl.out]
            rw [e] at hs
            have h3 := hs.nums (n := n) (k := i + 1) (by have := HAt.out.len; simp only [List.length_append, List.length_cons, List.length_nil] at this ⊢; omega) (by omega)
            rwa [List.take_left' (by simp [HIl.out])] at h3
          have hokd : ∀ z ∈ d ++ [y], z < 18446744073709551616 := fun z hz => by
            rcases List.mem_append.1 hz with hz | hz
            · exact HAt.out.okd z hz
            · rw [List.mem_singleton.1 hz]; exact hy
          have HMe := Lib.hid (members_any _ _ _ hnums (by simp only [List.length_append, List.length_cons, List.length_nil]; have := HIl.out; omega) hokd)
          have hsl : ∀ W, (Instr.sliceAt 33 (.slice (some ⟨g, 0, none⟩) n n) none (some (.int .i64 ((i : Int) + 1))) none).run Try.prog W = .ok (.slice (some ⟨g, 0, none⟩) (i + 1) n) W := fun W => by
            have h := slice_nums_to (some ⟨g, 0, none⟩) n n (i + 1) (by omega) W
            simpa using h
          have HRes := Lib.hid HAt.out.res
          have HDl := Lib.hid HIl.out
          clear h ho hy hI2 hU2 hq2 hb4 hnat hos4 hnums hokd k0 HAt HN2
          by_cases hmo : memOk (d ++ [y]) = true
          · have HMo := Lib.hid hmo
            rw [hmo] at HMe
            clear hmo
            go_wp2_with fail
            refine HMe.out.mono ?_
            rintro e w6 ⟨rfl, rfl⟩
            go_wp2_with fail
            refine (mask_yes 3 _).mono ?_
            rintro e w6 ⟨rfl, rfl⟩
            clear hcell hfree hsl
            go_wp2
            go_round
            case rel => exact ⟨d ++ [y], rest, U2, q2, by rw [List.length_append, ← HDl.out]; go_num, HNat.out HMo.out⟩
            case measure => simp [intOf]; omega
          · have HE2 := Lib.hid (show membersH H ids l = .error 3 by rw [HRes.out, idsH, MsgMath.bindP_ok HR2.out, if_neg hmo]; rfl)
            rw [show memOk (d ++ [y]) = false by simpa using hmo] at HMe
            clear hmo
            go_wp2_with fail
            refine HMe.out.mono ?_
            rintro e w6 ⟨rfl, rfl⟩
            go_wp2_with fail
            refine (mask_no 3 (by decide) _).mono ?_
            rintro e w6 ⟨rfl, rfl⟩
            exact ⟨rfl, HEnd.bad HE2.out HO5.out (by decide)⟩
end
end Go.Proofs.Ytgbhfolbkgibfaa

