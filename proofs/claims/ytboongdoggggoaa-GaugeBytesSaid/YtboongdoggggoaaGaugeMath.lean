/- The four operations and the square root on floats, one NaN standing for all; the gauge as plain numbers. -/
import Derived.Test.YtboongdoggggoaaEdgeMath
import Derived.Laws.FloatArith
import Derived.WalkKit
import Derived.Deep.Draws
namespace Go.Proofs.Ytboongdoggggoaa.EdgeMath
set_option maxRecDepth 20000
open Ieee

/-- What an operation gives, some NaN where it is not valid. -/
def fop (op : BinOp) (x y : Nat) : Nat := (floatBits op .f64 x y).getD 9221120237041090560

def fsqrt (x : Nat) : Nat := (FloatKind.f64.format.sqrt x).getD 9221120237041090560

def isArith : BinOp → Bool
  | .add | .sub | .mul | .quo => true
  | _ => false

theorem nan_of_rk {x : Nat} (h : rk x = 9218868437227405313) : 9218868437227405312 < x % 9223372036854775808 := by
  unfold rk at h
  split at h
  · assumption
  · split at h <;> omega

theorem fop_lt {op : BinOp} {x y : Nat} : fop op x y < 18446744073709551616 := by
  unfold fop
  cases h : floatBits op .f64 x y with
  | none => decide
  | some r =>
    have := floatBits_wf h
    simpa [Lit.wf] using this

theorem fsqrt_lt {x : Nat} : fsqrt x < 18446744073709551616 := by
  unfold fsqrt
  cases h : FloatKind.f64.format.sqrt x with
  | none => decide
  | some r => exact FloatKind.f64.format.sqrt_lt h

theorem fop_nan {op : BinOp} {x y : Nat} (ho : isArith op = true) (h : rk x = 9218868437227405313 ∨ rk y = 9218868437227405313) : floatBits op .f64 x y = none := by
  have e : ∀ x, rk x = 9218868437227405313 → ∃ s f, FloatKind.f64.format.read x = .nan s f := fun x h => read_nan x (nan_of_rk h)
  rcases h with h | h
  · obtain ⟨s, f, hr⟩ := e x h
    cases op <;> first | cases ho; done | (simp only [floatBits, Format.add, Format.sub, Format.mul, Format.div, hr]; rfl)
  · obtain ⟨s, f, hr⟩ := e y h
    cases op <;> first | cases ho; done | (simp only [floatBits, Format.add, Format.sub, Format.mul, Format.div, hr]; cases FloatKind.f64.format.read x <;> rfl)

theorem fsqrt_nan {x : Nat} (h : rk x = 9218868437227405313) : FloatKind.f64.format.sqrt x = none := by
  obtain ⟨s, f, hr⟩ : ∃ s f, FloatKind.f64.format.read x = .nan s f := read_nan x (nan_of_rk h)
  simp only [Format.sqrt, hr]
  rfl

theorem rk_inj {x y : Nat} (hx : x < 18446744073709551616) (hy : y < 18446744073709551616) (h : rk x = rk y) (hn : rk x ≠ 9218868437227405313) : x = y := by
  have := (canon_eq x y hx hy).2 h
  unfold canon at this
  rw [if_neg hn, if_neg (by rw [← h]; exact hn)] at this
  exact this

theorem fop_congr {op : BinOp} {x y x' y' : Nat} (ho : isArith op = true) (hx : x < 18446744073709551616) (hy : y < 18446744073709551616) (hx' : x' < 18446744073709551616) (hy' : y' < 18446744073709551616)
    (h1 : rk x = rk x') (h2 : rk y = rk y') : fop op x y = fop op x' y' := by
  by_cases hn : rk x = 9218868437227405313 ∨ rk y = 9218868437227405313
  · unfold fop
    rw [fop_nan ho hn, fop_nan ho (by rw [← h1, ← h2]; exact hn)]
  · rw [rk_inj hx hx' h1 (fun h => hn (.inl h)), rk_inj hy hy' h2 (fun h => hn (.inr h))]

theorem fsqrt_congr {x x' : Nat} (hx : x < 18446744073709551616) (hx' : x' < 18446744073709551616) (h1 : rk x = rk x') : fsqrt x = fsqrt x' := by
  by_cases hn : rk x = 9218868437227405313
  · unfold fsqrt
    rw [fsqrt_nan hn, fsqrt_nan (by rw [← h1]; exact hn)]
  · rw [rk_inj hx hx' h1 hn]

theorem drawn_nan (t : Nat) : (t % 2) * 2 ^ 63 + 0x7ff0000000000000 + 1 + (t / 2) % (2 ^ 52 - 1) < 18446744073709551616 ∧ rk ((t % 2) * 2 ^ 63 + 0x7ff0000000000000 + 1 + (t / 2) % (2 ^ 52 - 1)) = 9218868437227405313 := by
  have h := Nat.mod_lt (t / 2) (show 0 < 2 ^ 52 - 1 by decide)
  have h' : (t / 2) % (2 ^ 52 - 1) < 4503599627370495 := h
  obtain ⟨q, hq⟩ : ∃ q, q = (t / 2) % (2 ^ 52 - 1) := ⟨_, rfl⟩
  rw [← hq] at h' ⊢
  clear h hq
  rcases Nat.mod_two_eq_zero_or_one t with e | e <;> rw [e]
  · exact ⟨by omega, by unfold rk; rw [if_pos (by omega)]⟩
  · exact ⟨by omega, by unfold rk; rw [if_pos (by omega)]⟩

section
variable {P : Program}
theorem run_fop (op : BinOp) (ho : isArith op = true) (t : TypeId) (x y : Nat) (w : World) : ∃ r k, (binOp op t (.float .f64 x) (.float .f64 y)).run P w = .ok (.float .f64 r) (w.drewN k) ∧ r < 18446744073709551616 ∧ rk r = rk (fop op x y) := by
  cases h : floatBits op .f64 x y with
  | some r =>
    refine ⟨r, 0, run_float_arith w op t .f64 x y r h, ?_, ?_⟩
    · have := floatBits_wf h
      simpa [Lit.wf] using this
    · unfold fop; rw [h]; rfl
  | none =>
    obtain ⟨h1, h2⟩ := drawn_nan (w.tape w.drawn (.nanBits .f64 x y))
    refine ⟨_, 1, ?_, h1, by rw [h2]; unfold fop; rw [h]; rfl⟩
    unfold floatBits at h
    cases op <;> first | cases ho; done | (simp only at h; simp only [binOp, Op.floatArith, h]; rfl)

theorem upon_fop {o : Oper} {a : Act} {K : Act → World → Prop} {Q : Exit → Act → World → Prop} (op : BinOp) (ho : isArith op = true) (t : TypeId) (x y : Nat) (w : World) {g : Value → World → Result Next}
    (h : ∀ r k, r < 18446744073709551616 → rk r = rk (fop op x y) → o.upon P a K Q (g (.float .f64 r) (w.drewN k))) : o.upon P a K Q (((binOp op t (.float .f64 x) (.float .f64 y)).run P w).andThen g) := by
  obtain ⟨r, k, h1, h2, h3⟩ := run_fop (P := P) op ho t x y w
  rw [h1]
  exact h r k h2 h3

theorem run_store_float (k : FloatKind) (b : Nat) (w : World) (a : Addr) (m : Mode) : (store a (.float k b) m).run P w = stored P w a (.float k b) m := run_store P w a _ m rfl

theorem run_fsqrt (x : Nat) (w : World) : ∃ r k, (Extern.MathSqrt.sqrt #[.float .f64 x]).run P w = .ok (.float .f64 r) (w.drewN k) ∧ r < 18446744073709551616 ∧ rk r = rk (fsqrt x) := by
  have e : Extern.MathSqrt.sqrt #[.float .f64 x] = (match FloatKind.f64.format.sqrt x with
    | some r => pure (.float .f64 r)
    | none => do pure (.float .f64 (← choose (.nanBits .f64 x x)))) := rfl
  rw [e]
  cases h : FloatKind.f64.format.sqrt x with
  | some r =>
    refine ⟨r, 0, ?_, FloatKind.f64.format.sqrt_lt h, by unfold fsqrt; rw [h]; rfl⟩
    rfl
  | none =>
    obtain ⟨h1, h2⟩ := drawn_nan (w.tape w.drawn (.nanBits .f64 x x))
    refine ⟨_, 1, ?_, h1, by rw [h2]; unfold fsqrt; rw [h]; rfl⟩
    rfl
end

/-- A gauge: how many, the mean, the sum, the ends. -/
structure G where
  n : Nat
  m : Nat
  s : Nat
  lo : Nat
  hi : Nat

/-- Two gauges are one. -/
structure G.Eqv (a b : G) : Prop where
  n : a.n = b.n
  m : rk a.m = rk b.m
  s : rk a.s = rk b.s
  lo : rk a.lo = rk b.lo
  hi : rk a.hi = rk b.hi

structure G.Ok (a : G) : Prop where
  n : a.n < 18446744073709551616
  m : a.m < 18446744073709551616
  s : a.s < 18446744073709551616
  lo : a.lo < 18446744073709551616
  hi : a.hi < 18446744073709551616

/-- The float of a whole number. -/
def flo (n : Nat) : Nat := floatOfInt .f64 (n : Int)

theorem flo_lt (n : Nat) : flo n < 18446744073709551616 := by
  have := floatOfInt_wf .f64 (n : Int)
  simpa [flo, Lit.wf] using this

def lesser (x y : Nat) : Nat := if rk y < rk x then y else x
def greater (x y : Nat) : Nat := if rk x < rk y then y else x

/-- The new mean. -/
def G.nm (a : G) (x : Nat) : Nat := fop .add a.m (fop .quo (fop .sub x a.m) (flo (a.n + 1)))

/-- A number is added. -/
def G.add (a : G) (x : Nat) : G :=
  if rk x = 9218868437227405313 ∨ 9007199254740992 ≤ a.n then a
  else if a.n = 0 then ⟨1, x, 0, lesser a.lo x, greater a.hi x⟩
  else ⟨a.n + 1, a.nm x, fop .add a.s (fop .mul (fop .sub x a.m) (fop .sub x (a.nm x))), lesser a.lo x, greater a.hi x⟩

def G.spread (a : G) : Nat := if a.n = 0 then 9221120237041090561 else fsqrt (fop .quo a.s (flo a.n))

theorem G.Eqv.refl (a : G) : a.Eqv a := ⟨rfl, rfl, rfl, rfl, rfl⟩
theorem G.Eqv.symm {a b : G} (h : a.Eqv b) : b.Eqv a := ⟨h.n.symm, h.m.symm, h.s.symm, h.lo.symm, h.hi.symm⟩
theorem G.Eqv.trans {a b c : G} (h : a.Eqv b) (g : b.Eqv c) : a.Eqv c := ⟨h.n.trans g.n, h.m.trans g.m, h.s.trans g.s, h.lo.trans g.lo, h.hi.trans g.hi⟩

theorem lesser_rk (x y : Nat) : rk (lesser x y) = if rk y < rk x then rk y else rk x := by unfold lesser; split <;> rfl
theorem greater_rk (x y : Nat) : rk (greater x y) = if rk x < rk y then rk y else rk x := by unfold greater; split <;> rfl

theorem lesser_lt {x y : Nat} (hx : x < 18446744073709551616) (hy : y < 18446744073709551616) : lesser x y < 18446744073709551616 := by unfold lesser; split <;> assumption
theorem greater_lt {x y : Nat} (hx : x < 18446744073709551616) (hy : y < 18446744073709551616) : greater x y < 18446744073709551616 := by unfold greater; split <;> assumption

theorem G.add_ok {a : G} {x : Nat} (h : a.Ok) (hx : x < 18446744073709551616) : (a.add x).Ok := by
  unfold G.add
  split
  · exact h
  · split
    · exact ⟨(by decide : 1 < 18446744073709551616), hx, (by decide : 0 < 18446744073709551616), lesser_lt h.lo hx, greater_lt h.hi hx⟩
    · have := h.n
      exact ⟨by show a.n + 1 < _; omega, fop_lt, fop_lt, lesser_lt h.lo hx, greater_lt h.hi hx⟩

theorem G.add_congr {a b : G} {x y : Nat} (ha : a.Ok) (hb : b.Ok) (hx : x < 18446744073709551616) (hy : y < 18446744073709551616) (h : a.Eqv b) (hxy : rk x = rk y) : (a.add x).Eqv (b.add y) := by
  unfold G.add
  rw [← hxy, ← h.n]
  by_cases h1 : rk x = 9218868437227405313 ∨ 9007199254740992 ≤ a.n
  · rw [if_pos h1, if_pos h1]; exact h
  · rw [if_neg h1, if_neg h1]
    by_cases h2 : a.n = 0
    · rw [if_pos h2, if_pos h2]
      exact ⟨rfl, hxy, rfl, by rw [lesser_rk, lesser_rk, h.lo, hxy], by rw [greater_rk, greater_rk, h.hi, hxy]⟩
    · rw [if_neg h2, if_neg h2]
      have e1 : fop .sub x a.m = fop .sub y b.m := fop_congr rfl hx ha.m hy hb.m hxy h.m
      have e2 : a.nm x = b.nm y := by
        unfold G.nm
        rw [e1, h.n]
        exact fop_congr rfl ha.m fop_lt hb.m fop_lt h.m rfl
      have e3 : fop .sub x (a.nm x) = fop .sub y (b.nm y) := by
        rw [e2]
        exact fop_congr rfl hx fop_lt hy fop_lt hxy rfl
      refine ⟨rfl, by show rk (a.nm x) = rk (b.nm y); rw [e2], ?_, by show rk (lesser _ _) = rk (lesser _ _); rw [lesser_rk, lesser_rk, h.lo, hxy], by show rk (greater _ _) = rk (greater _ _); rw [greater_rk, greater_rk, h.hi, hxy]⟩
      show rk (fop _ _ _) = rk (fop _ _ _)
      rw [e1, e3]
      rw [fop_congr rfl ha.s fop_lt hb.s fop_lt h.s rfl]

theorem G.add_step (n m s lo hi x p d q m1 f pr s1 f1 f2 : Nat) (hok : G.Ok ⟨n, m, s, lo, hi⟩) (hx : x < 18446744073709551616) (hnan : ¬ rk x = 9218868437227405313) (hbig : ¬ 9007199254740992 ≤ n) (hz : ¬ n = 0) (hp : p = n + 1)
    (hd : d < 18446744073709551616) (hdk : rk d = rk (fop .sub x m)) (hq : q < 18446744073709551616) (hqk : rk q = rk (fop .quo d (flo p))) (hm : m1 < 18446744073709551616) (hmk : rk m1 = rk (fop .add m q))
    (hf : f < 18446744073709551616) (hfk : rk f = rk (fop .sub x m1)) (hpr : pr < 18446744073709551616) (hprk : rk pr = rk (fop .mul d f)) (hsk : rk s1 = rk (fop .add s pr))
    (h1 : rk f1 = rk (lesser lo x)) (h2 : rk f2 = rk (greater hi x)) : G.Eqv ⟨p, m1, s1, f1, f2⟩ (G.add ⟨n, m, s, lo, hi⟩ x) := by
  have e1 : fop .quo d (flo p) = fop .quo (fop .sub x m) (flo (n + 1)) := by
    rw [hp]
    exact fop_congr rfl hd (flo_lt _) fop_lt (flo_lt _) hdk rfl
  have e2 : fop .add m q = G.nm ⟨n, m, s, lo, hi⟩ x := by
    unfold G.nm
    rw [e1] at hqk
    exact fop_congr rfl hok.m hq hok.m fop_lt rfl hqk
  rw [e2] at hmk
  have e3 : fop .sub x m1 = fop .sub x (G.nm ⟨n, m, s, lo, hi⟩ x) := fop_congr rfl hx hm hx fop_lt rfl hmk
  rw [e3] at hfk
  have e4 : fop .mul d f = fop .mul (fop .sub x m) (fop .sub x (G.nm ⟨n, m, s, lo, hi⟩ x)) := fop_congr rfl hd hf fop_lt fop_lt hdk hfk
  rw [e4] at hprk
  have e5 : fop .add s pr = fop .add s (fop .mul (fop .sub x m) (fop .sub x (G.nm ⟨n, m, s, lo, hi⟩ x))) := fop_congr rfl hok.s hpr hok.s fop_lt rfl hprk
  rw [e5] at hsk
  unfold G.add
  rw [if_neg (fun h => h.elim hnan hbig), if_neg hz]
  exact ⟨hp, hmk, hsk, h1, h2⟩

theorem G.spread_congr {a b : G} (ha : a.Ok) (hb : b.Ok) (h : a.Eqv b) : a.spread = b.spread := by
  unfold G.spread
  rw [← h.n]
  by_cases h2 : a.n = 0
  · rw [if_pos h2, if_pos h2]
  · rw [if_neg h2, if_neg h2, fop_congr rfl ha.s (flo_lt _) hb.s (flo_lt _) h.s rfl]

theorem G.spread_lt {a : G} : a.spread < 18446744073709551616 := by
  unfold G.spread
  split
  · decide
  · exact fsqrt_lt

end Go.Proofs.Ytboongdoggggoaa.EdgeMath
