/- Joined: NetTwiceP, NetWayP, MsgHand. -/
import Derived.Test.YtgbhfolbkgibfaaLAP
import Derived.Test.YtgbhfolbkgibfaaLAB
/- Layer 19: Twice of the landed net. -/
namespace Go.Proofs.Ytgbhfolbkgibfaa
set_option maxRecDepth 20000
open Go.RowKit Go.Maps BinMath NetMath
open MsgMath (Mg formedM putM getM)

theorem txs_cell {w : World} {B e n c : Nat} {a : Option Addr} {xs : List Value} (h : w.ownsRow B e 1 (.slice a n c) n xs) {i : Nat} {x : Value} (hx : xs[i]? = some x) : ∃ g, a = some ⟨g, 0, none⟩ ∧ w.cell? ⟨g, i, none⟩ = some x := by
  have hi := (List.getElem?_eq_some_iff.1 hx).1
  have hl := h.1
  rcases h.2 with ⟨-, h1⟩ | ⟨g, cap, cur, hv, hB, hg, hn, hm, hs, ht⟩
  · omega
  · cases hv
    refine ⟨g, rfl, ?_⟩
    rw [← ht, List.getElem?_take, if_pos (by omega), Array.getElem?_toList] at hx
    rw [(show Blk w g e cur from hg).cell]
    exact hx

set_option maxHeartbeats 1000000 in
theorem ntwice_any {w : World} {P : Nat} {n : Nt} {U : Nat → Prop} {m : Nat} {v : Value} {ts : List (Value × Mg)} (h : NIs w P n U m v ts) (i : Int) :
    Calls Try.prog 17 #[np P, .int .i64 i] w (NetEnd IsNet P U (n.twice i).2 w fun e _ => e = .returned (.int .i64 ((n.twice i).1 : Int))) := by
  have HB := Lib.hid (nhas_any h i)
  have HH := Lib.hid h
  by_cases hi : 0 ≤ i ∧ i.toNat < ts.length
  · obtain ⟨j, rfl⟩ : ∃ j : Nat, i = (j : Int) := ⟨i.toNat, by omega⟩
    have hj : j < ts.length := by omega
    have hj2 : j < n.L.length := by rw [h.len]; exact hj
    rw [decide_eq_true hi] at HB
    obtain ⟨⟨x, mg⟩, ht⟩ : ∃ t, ts[j]? = some t := ⟨ts[j], List.getElem?_eq_getElem hj⟩
    have hmem := List.mem_of_getElem? ht
    have hmg : n.L[j]? = some mg := by rw [← h.msgs, List.getElem?_map, ht]; rfl
    have hx : (ts.map Prod.fst)[j]? = some x := by rw [List.getElem?_map, ht]; rfl
    have e2 : n.twice (j : Int) = if 256 ≤ n.L.length then (7, n) else (0, ⟨n.L ++ [mg], n.W⟩) := by
      unfold Nt.twice
      rw [dif_pos ⟨by omega, by simpa using hj2⟩]
      have e3 : n.L[(j : Int).toNat]'(by simpa using hj2) = mg := by
        have := List.getElem?_eq_some_iff.1 hmg
        obtain ⟨_, h5⟩ := this
        exact h5
      rw [e3]
    have HA := Lib.hid (nadd_any h (h.txt _ hmem) (h.ut _ hmem))
    have HE := Lib.hid (show ∀ e w', NetEnd IsNet P U (if 256 ≤ n.L.length then n else ⟨n.L ++ [mg], n.W⟩) w (fun e _ => e = .returned (.int .i64 (if 256 ≤ n.L.length then 7 else 0))) e w' → NetEnd IsNet P U (n.twice (j : Int)).2 w (fun e _ => e = .returned (.int .i64 ((n.twice (j : Int)).1 : Int))) e w' from fun e w' hh => by
      rw [e2]
      by_cases hf : 256 ≤ n.L.length
      · simp only [if_pos hf] at hh ⊢; exact hh
      · simp only [if_neg hf] at hh ⊢; exact hh)
    obtain ⟨a, c, rfl, -⟩ := ownsRow_shape h.row
    obtain ⟨g, rfl, hc⟩ := txs_cell h.row hx
    obtain ⟨xa, xc, hxe, -⟩ := (h.txt _ hmem).row
    simp only at hxe
    subst hxe
    have c0 : w.cell? ⟨P, 0, none⟩ = some (.slice (some ⟨g, 0, none⟩) ts.length c) := by rw [h.blk.cell]; rfl
    have hjl : (j : Int) < (ts.length : Int) := by omega
    obtain ⟨l, hl⟩ : ∃ l, l = ts.length := ⟨_, rfl⟩
    rw [← hl] at c0 hjl
    obtain ⟨lx, hlx⟩ : ∃ l, l = (putM mg).length := ⟨_, rfl⟩
    rw [← hlx] at hc HA
    clear h hmem hx ht hmg hj hj2 hi e2 hl hlx
    go_enter Try.func17, Try.ntmps17
    go_wp2_with fail
    refine HB.out.mono ?_
    rintro e w2 ⟨rfl, rfl⟩
    go_wp2_with fail
    refine HA.out.mono ?_
    intro e w2 hh
    have HE2 := Lib.hid (HE.out _ _ hh)
    obtain rfl := hh.1
    clear hh
    obtain ⟨z, hz⟩ : ∃ z : Int, z = if 256 ≤ n.L.length then 7 else 0 := ⟨_, rfl⟩
    rw [← hz] at HE2 ⊢
    clear hz
    go_wp2
    go_ret
    exact HE2.out
  · rw [decide_eq_false hi] at HB
    have e2 : n.twice i = (9, n) := by
      unfold Nt.twice
      rw [dif_neg (by rw [h.len]; exact hi)]
    rw [e2]
    clear h e2 hi
    go_enter Try.func17, Try.ntmps17
    go_wp2_with fail
    refine HB.out.mono ?_
    rintro e w2 ⟨rfl, rfl⟩
    go_wp2
    go_ret
    exact ⟨rfl, OnlyS.refl _ _, U, ⟨m, v, ts, HH.out⟩, fun k hk => .inl hk⟩
end Go.Proofs.Ytgbhfolbkgibfaa

/- Layer 19: New, Block, Blocked of the landed net. -/
namespace Go.Proofs.Ytgbhfolbkgibfaa
set_option maxRecDepth 20000
open Go.RowKit Go.Maps BinMath NetMath
open MsgMath (Mg formedM putM getM)

theorem nnew_any (w : World) : Calls Try.prog 8 #[] w fun e w' => ∃ P U, e = .returned (.pointer (some ⟨P, 0, none⟩)) ∧ IsNet w' P Nt.none U ∧ Below w.heap.size w w' ∧ ∀ k, U k → w.heap.size ≤ k := by
  have hmk : ∀ W, (Instr.makeMap 57 none).run Try.prog W = .ok (.map (some W.heap.size)) (W.alloc (.map #[] 0)) := fun W => rfl
  go_enter Try.func8, Try.ntmps8
  go_wp2
  go_ret
  have hb1 : Below w.heap.size w (w.alloc (.map #[] 0)) := (Below.refl _ _).alloc (Nat.le_refl _) _
  have hb2 := hb1.alloc hb1.size (.cells #[.slice none 0 0, .map (some w.heap.size)] 60)
  refine ⟨w.heap.size + 1, fun k => k = w.heap.size ∨ k = w.heap.size + 1, ?_, ⟨w.heap.size, .slice none 0 0, [], ?_⟩, hb2, fun k e => by omega⟩
  · simp
  · have hbk : Blk ((w.alloc (.map #[] 0)).alloc (.cells #[.slice none 0 0, .map (some w.heap.size)] 60)) (w.heap.size + 1) 60 #[.slice none 0 0, .map (some w.heap.size)] := Blk.newAt _ _ _ _ _ (by simp) rfl
    exact { blk := hbk, row := World.ownsRow_nil _ _ _ _
            ways := (WMap.made w).same (((Below.refl _ _).alloc (Nat.le_refl _) _).block _ (by simp))
            txt := fun t e => absurd e List.not_mem_nil
            msgs := rfl, few := by simp, uP := .inr rfl, um := .inl rfl
            uv := fun k e => by simp [Value.ownBlock] at e
            ut := fun t e => absurd e List.not_mem_nil
            ul := fun k e => by simp only [World.size_alloc]; omega }

set_option maxHeartbeats 1000000 in
theorem nblocked_any {w : World} {P : Nat} {n : Nt} {U : Nat → Prop} {m : Nat} {v : Value} {ts : List (Value × Mg)} (h : NIs w P n U m v ts) (a b : Nat) (ha : a < 18446744073709551616) (hb : b < 18446744073709551616) :
    Calls Try.prog 23 #[np P, .int .u64 (a : Int), .int .u64 (b : Int)] w fun e w' => e = .returned (.bool (n.blocked a b)) ∧ Below w.heap.size w w' := by
  have hl := h.ways.look (p := (a, b)) ⟨ha, hb⟩
  unfold wv at hl
  simp only at hl
  have c1 : w.cell? ⟨P, 1, none⟩ = some (.map (some m)) := by rw [h.blk.cell]; rfl
  unfold Nt.blocked
  obtain ⟨d, hd⟩ : ∃ d, d = decide ((a, b) ∈ n.W) := ⟨_, rfl⟩
  rw [← hd] at hl ⊢
  clear h ha hb hd
  go_enter Try.func23, Try.ntmps23
  go_wp2
  go_ret
  exact ⟨rfl, (Below.refl _ _).alloc (Nat.le_refl _) _⟩

set_option maxHeartbeats 1000000 in
theorem nblock_any {w : World} {P : Nat} {n : Nt} {U : Nat → Prop} {m : Nat} {v : Value} {ts : List (Value × Mg)} (h : NIs w P n U m v ts) (a b : Nat) (yes : Bool) (ha : a < 18446744073709551616) (hb : b < 18446744073709551616) (hl : n.W.length ≤ 1000) :
    Calls Try.prog 19 #[np P, .int .u64 (a : Int), .int .u64 (b : Int), .bool yes] w (NetEnd IsNet P U (n.block a b yes) w fun e _ => e = .returned (.tuple #[])) := by
  have c1 : w.cell? ⟨P, 1, none⟩ = some (.map (some m)) := by rw [h.blk.cell]; rfl
  have hend : ∀ w', WMap w' m (blockW n.W a b yes) → OnlyS (fun k => k = m) w w' → NetEnd IsNet P U (n.block a b yes) w (fun e _ => e = .returned (.tuple #[])) (.returned (.tuple #[])) w' := fun w' hm ho => by
    refine ⟨rfl, ho.mono fun k _ e => e ▸ h.um, U, ⟨m, v, ts, ?_⟩, fun k e => .inl e⟩
    exact { blk := h.blk.onlyS ho fun e => h.ways.ne h.blk e.symm
            row := ownsRow_to h.row fun k e => ho.block k (World.ownsRow.lt h.row k e).2 fun e2 => h.ways.ne_row h.row (e2 ▸ e)
            ways := hm
            txt := fun t e => (h.txt t e).to fun k hk => ho.block k ((h.txt t e).lt hk) fun e2 => by
              obtain ⟨p, q, -, -, hr⟩ := (h.txt t e).row
              exact h.ways.ne_row hr (e2 ▸ hk)
            msgs := h.msgs, few := h.few, uP := h.uP, um := h.um, uv := h.uv, ut := h.ut
            ul := fun k e => Nat.lt_of_lt_of_le (h.ul k e) ho.size }
  have HE := Lib.hid hend
  cases yes with
  | true =>
    have S := Lib.hid (h.ways.store (p := (a, b)) ⟨ha, hb⟩ (by omega))
    unfold wv at S
    clear h ha hb hl hend
    go_enter Try.func19, Try.ntmps19
    go_wp2_with (refine wpList_mapUpdate_to rfl _ _ _ 57 rfl _ _ _ rfl rfl rfl _ S.out ?_; rintro w2 ⟨hm, ho⟩; (have HM := Lib.hid hm); (have HO := Lib.hid ho); clear hm ho)
    go_end0
    exact HE.out _ HM.out HO.out
  | false =>
    have S := Lib.hid (h.ways.drop (p := (a, b)) ⟨ha, hb⟩ 0)
    unfold wv at S
    clear h ha hb hl hend
    go_enter Try.func19, Try.ntmps19
    go_wp2_with (refine wpList_delete_to rfl _ _ 57 72 rfl _ _ rfl rfl _ S.out ?_; rintro w2 ⟨hm, ho⟩; (have HM := Lib.hid hm); (have HO := Lib.hid ho); clear hm ho)
    go_end0
    exact HE.out _ HM.out HO.out
end Go.Proofs.Ytgbhfolbkgibfaa

/- Layer 18: what a hand does, and what a walk through a message's fields by it comes to, as plain data. No program is named here. -/
namespace Go.Proofs.Ytgbhfolbkgibfaa.MsgMath
set_option maxRecDepth 20000
open BinMath CmdMath

/-- What a hand answers to each of its four calls, and what it stands at behind it. -/
structure Hand where
  octet : Nat → Rd Nat
  number : Nat → Rd Nat
  text : Nat → List UInt8 → Rd (List UInt8)
  entry : Ent → Rd Ent

def withinH (H : Hand) (n lo hi : Nat) : Rd Nat := bindP (H.number n) fun x => if lo ≤ x ∧ x ≤ hi then retP x else failP 3
def yesH (H : Hand) (y : Bool) : Rd Bool := bindP (H.octet (if y = true then 1 else 0)) fun c => if c ≤ 1 then retP (decide (c = 1)) else failP 3
def entsH (H : Hand) : List Ent → List Ent → Rd (List Ent)
  | d, [] => retP d
  | d, e :: es => bindP (H.entry e) fun x => entsH H (d ++ [x]) es
/-- The n ones that there is room for: the list's, and nothing behind them. -/
def fillE (n : Nat) (l : List Ent) : List Ent := (l ++ List.replicate n Ent.zero).take n
def fillN (n : Nat) (l : List Nat) : List Nat := (l ++ List.replicate n 0).take n
def entriesH (H : Hand) (l : List Ent) : Rd (List Ent) := bindP (H.number l.length) fun n => if n ≤ 4 then entsH H [] (fillE n l) else failP 4
def idsH (H : Hand) : List Nat → List Nat → Rd (List Nat)
  | d, [] => retP d
  | d, x :: xs => bindP (H.number x) fun y => if memOk (d ++ [y]) = true then idsH H (d ++ [y]) xs else failP 3
def membersH (H : Hand) (l : List Nat) : Rd (List Nat) := bindP (withinH H l.length 1 7) fun n => idsH H [] (fillN n l)
def bodyH (H : Hand) (k f o t : Nat) (m : Mg) : Rd Mg :=
  if k = 1 then bindP (withinH H m.i 0 MT) fun i => bindP (withinH H m.l 0 MT) fun l => retP ⟨1, f, o, t, i, l, 0, 0, false, [], [], []⟩
  else if k = 2 then bindP (yesH H m.y) fun y => retP ⟨2, f, o, t, 0, 0, 0, 0, y, [], [], []⟩
  else if k = 3 then bindP (withinH H m.i 0 MT) fun i => bindP (withinH H m.l 0 MT) fun l => bindP (withinH H m.c 0 MT) fun c => bindP (H.number m.s) fun s => bindP (entriesH H m.e) fun es => retP ⟨3, f, o, t, i, l, c, s, false, es, [], []⟩
  else if k = 4 then bindP (yesH H m.y) fun y => bindP (withinH H m.i 0 MT) fun i => bindP (H.number m.s) fun s => retP ⟨4, f, o, t, i, 0, 0, s, y, [], [], []⟩
  else bindP (withinH H m.i 0 MT) fun i => bindP (withinH H m.l 0 MT) fun l => bindP (H.number m.s) fun s => bindP (membersH H m.m) fun ids => bindP (H.text 16384 m.g) fun g => retP ⟨5, f, o, t, i, l, 0, s, false, [], ids, g⟩
def walkH (H : Hand) (m : Mg) : Rd Mg := bindP (H.octet (m.k % 256).toNat) fun k => if 1 ≤ k ∧ k ≤ 5 then bindP (withinH H m.f 1 7) fun f => bindP (withinH H m.o 1 7) fun o => bindP (withinH H m.t 1 MT) fun t => bodyH H k f o t m else failP 3

/-! ### The hand that reads -/

def rdH : Hand := ⟨fun _ => gByte, fun _ => gNum, fun most _ => gText most, fun _ => bindP (gText 128) fun x => if (getR x).2 = 0 then retP (getR x).1 else failP (getR x).2⟩

theorem bindP_assoc {α β γ : Type} (p : Rd α) (q : α → Rd β) (r : β → Rd γ) : bindP (bindP p q) r = bindP p fun x => bindP (q x) r := by
  funext l
  simp only [bindP]
  cases p l <;> rfl
theorem bindP_ret {α β : Type} (x : α) (q : α → Rd β) : bindP (retP x) q = q x := rfl
theorem ret_bindP {α : Type} (p : Rd α) : bindP p retP = p := by
  funext l
  simp only [bindP]
  cases p l <;> rfl
theorem bindP_fail {α β : Type} (c : Nat) (q : α → Rd β) : bindP (failP c) q = failP c := rfl
theorem bindP_ite {α β : Type} (c : Prop) [Decidable c] (p p' : Rd α) (q : α → Rd β) : bindP (if c then p else p') q = if c then bindP p q else bindP p' q := by
  split <;> rfl

theorem entsH_rd : ∀ (n : Nat) (d : List Ent), entsH rdH d (List.replicate n Ent.zero) = bindP (gEnts n) fun es => retP (d ++ es)
  | 0, d => by
    show retP d = retP (d ++ [])
    rw [List.append_nil]
  | n + 1, d => by
    rw [List.replicate_succ, entsH, gEnts]
    simp only [rdH]
    rw [bindP_assoc, bindP_assoc]
    congr 1
    funext x
    rw [bindP_ite, bindP_ite, bindP_ret, bindP_assoc, bindP_fail, bindP_fail]
    split
    · rw [show (⟨fun _ => gByte, fun _ => gNum, fun most _ => gText most, fun _ => bindP (gText 128) fun x => if (getR x).2 = 0 then retP (getR x).1 else failP (getR x).2⟩ : Hand) = rdH from rfl, entsH_rd n]
      congr 1
      funext es
      rw [bindP_ret, List.append_assoc]
      rfl
    · rfl

theorem rises_snoc : ∀ (d : List Nat) (a y : Nat), rises a (d ++ [y]) = (rises a d && decide (d.getLastD a < y ∧ y ≤ 7))
  | [], a, y => by simp [rises]
  | x :: d, a, y => by
    rw [List.cons_append, rises, rises, rises_snoc d x y, List.getLastD_cons, Bool.and_assoc]

theorem memOk_snoc (d : List Nat) (y : Nat) (h : rises 0 d = true) : memOk (d ++ [y]) = decide (d.getLastD 0 < y ∧ y ≤ 7) := by
  unfold memOk
  rw [rises_snoc, h]
  simp

theorem idsH_rd : ∀ (n : Nat) (d : List Nat), rises 0 d = true → idsH rdH d (List.replicate n 0) = bindP (gIds n (d.getLastD 0)) fun ids => retP (d ++ ids)
  | 0, d, _ => by
    show retP d = retP (d ++ [])
    rw [List.append_nil]
  | n + 1, d, h => by
    funext l
    rw [List.replicate_succ, idsH]
    show bindP gNum _ l = _
    cases hn : gNum l with
    | error c =>
      rw [bindP_err hn, bindP_err (c := c) (by simp only [gIds, hn])]
    | ok p =>
      obtain ⟨y, r⟩ := p
      rw [bindP_ok hn, memOk_snoc d y h]
      by_cases hy : d.getLastD 0 < y ∧ y ≤ 7
      · have hr : rises 0 (d ++ [y]) = true := by rw [rises_snoc, h, decide_eq_true hy]; rfl
        rw [decide_eq_true hy, if_pos rfl, idsH_rd n (d ++ [y]) hr, List.getLastD_concat]
        cases hg : gIds n y r with
        | error c =>
          rw [bindP_err hg, bindP_err (c := c) (by simp only [gIds, hn, if_pos hy, hg])]
        | ok q =>
          obtain ⟨ids, q⟩ := q
          rw [bindP_ok hg, bindP_ok (show gIds (n + 1) (d.getLastD 0) l = .ok (y :: ids, q) by simp only [gIds, hn, if_pos hy, hg]), List.append_assoc]
          rfl
      · rw [decide_eq_false hy, if_neg (by simp), bindP_err (c := 3) (by simp only [gIds, hn, if_neg hy])]
        rfl

theorem fillE_nil (n : Nat) : fillE n [] = List.replicate n Ent.zero := by simp [fillE]
theorem fillN_nil (n : Nat) : fillN n [] = List.replicate n 0 := by simp [fillN]
theorem fillN_len (n : Nat) (l : List Nat) : (fillN n l).length = n := by simp [fillN]
theorem fillE_self (l : List Ent) : fillE l.length l = l := by simp [fillE]
theorem fillN_self (l : List Nat) : fillN l.length l = l := by simp [fillN]

theorem entriesH_rd : entriesH rdH [] = bindP gNum fun n => if n ≤ 4 then gEnts n else failP 4 := by
  show bindP gNum _ = _
  congr 1
  funext n
  rw [fillE_nil, entsH_rd]
  show (if n ≤ 4 then bindP (gEnts n) (fun es => retP es) else failP 4) = _
  rw [ret_bindP]
theorem membersH_rd : membersH rdH [] = gMem := by
  funext l
  show bindP (bindP gNum _) _ l = _
  rw [bindP_assoc]
  cases hn : gNum l with
  | error c => rw [bindP_err hn]; simp only [gMem, hn]
  | ok p =>
    obtain ⟨n, r⟩ := p
    rw [bindP_ok hn, bindP_ite, bindP_ret, bindP_fail]
    simp only [gMem, hn]
    by_cases h : 1 ≤ n ∧ n ≤ 7
    · rw [if_pos h, if_pos h, fillN_nil, idsH_rd n [] rfl]
      show bindP (gIds n 0) (fun ids => retP ids) r = _
      rw [ret_bindP]
    · rw [if_neg h, if_neg h]
      rfl

theorem walkH_rd : walkH rdH Mg.zero = gMsg := by
  unfold walkH gMsg
  show bindP gByte _ = _
  congr 1
  funext k
  split
  · show bindP (gRange 1 7) _ = _
    congr 1
    funext f
    show bindP (gRange 1 7) _ = _
    congr 1
    funext o
    show bindP (gRange 1 MT) _ = _
    congr 1
    funext t
    unfold bodyH gBody
    rw [show Mg.zero.e = [] from rfl, show Mg.zero.m = [] from rfl, entriesH_rd, membersH_rd]
    split
    · rfl
    · split
      · rfl
      · split
        · show bindP (gRange 0 MT) _ = _
          congr 1
          funext i
          show bindP (gRange 0 MT) _ = _
          congr 1
          funext j
          show bindP (gRange 0 MT) _ = _
          congr 1
          funext c
          show bindP gNum _ = _
          congr 1
          funext s
          rw [bindP_assoc]
          congr 1
          funext n
          rw [bindP_ite]
          rfl
        · split <;> rfl
  · rfl

/-! ### The hand that lays down -/

def wrH : Hand := ⟨fun c l => .ok (c, l ++ [UInt8.ofNat c]), fun n l => .ok (n, l ++ numL n), fun most b l => if b.length ≤ most then .ok (b, l ++ (numL b.length ++ b)) else .error 4,
  fun e l => if formed e = true then if (putL e).length ≤ 128 then .ok (e, l ++ (numL (putL e).length ++ putL e)) else .error 4 else .error 1⟩

/-- It answers x, and lays b behind what was laid. -/
def Lays {α : Type} (p : Rd α) (x : α) (b : List UInt8) : Prop := ∀ l, p l = .ok (x, l ++ b)
theorem Lays.ret {α : Type} (x : α) : Lays (retP x) x [] := fun l => by rw [List.append_nil]; rfl
theorem Lays.bind {α β : Type} {p : Rd α} {q : α → Rd β} {x : α} {y : β} {b c : List UInt8} (h : Lays p x b) (k : Lays (q x) y c) : Lays (bindP p q) y (b ++ c) := fun l => by
  rw [bindP_ok (h l), k, List.append_assoc]
theorem Lays.cast {α : Type} {p : Rd α} {x : α} {b c : List UInt8} (h : Lays p x b) (e : b = c) : Lays p x c := e ▸ h
theorem Lays.last {α β : Type} {p : Rd α} {F : α → β} {x : α} {b : List UInt8} (h : Lays p x b) : Lays (bindP p fun y => retP (F y)) (F x) b := fun l => by
  rw [bindP_ok (h l)]
  rfl
theorem lays_octet (c : Nat) : Lays (wrH.octet c) c [UInt8.ofNat c] := fun _ => rfl
theorem lays_num (n : Nat) : Lays (wrH.number n) n (numL n) := fun _ => rfl
theorem lays_within {n lo hi : Nat} (h1 : lo ≤ n) (h2 : n ≤ hi) : Lays (withinH wrH n lo hi) n (numL n) :=
  ((lays_num n).bind (by rw [if_pos ⟨h1, h2⟩]; exact Lays.ret n)).cast (List.append_nil _)
theorem lays_yes (y : Bool) : Lays (yesH wrH y) y [flagL y] := by
  cases y <;> intro l <;> rfl
theorem lays_text {most : Nat} {b : List UInt8} (h : b.length ≤ most) : Lays (wrH.text most b) b (numL b.length ++ b) := fun l => by
  show (if b.length ≤ most then _ else _) = _
  rw [if_pos h]
theorem lays_ents : ∀ (es d : List Ent), (∀ x ∈ es, x.Ok) → es.all formed = true → Lays (entsH wrH d es) (d ++ es) (entsL es)
  | [], d, _, _ => by rw [List.append_nil]; exact Lays.ret d
  | e :: es, d, hok, hf => by
    rw [List.all_cons, Bool.and_eq_true] at hf
    have h1 : Lays (wrH.entry e) e (numL (putL e).length ++ putL e) := fun l => by
      show (if formed e = true then if (putL e).length ≤ 128 then _ else _ else _) = _
      rw [if_pos hf.1, if_pos (putL_len e (hok e (by simp)) hf.1)]
    have h2 := Lays.bind (q := fun x => entsH wrH (d ++ [x]) es) h1 (lays_ents es (d ++ [e]) (fun x hx => hok x (by simp [hx])) hf.2)
    rw [List.append_assoc] at h2
    exact h2.cast (by rw [entsL, List.append_assoc])
theorem lays_ids : ∀ (xs d : List Nat), rises 0 (d ++ xs) = true → Lays (idsH wrH d xs) (d ++ xs) (idsL xs)
  | [], d, _ => by rw [List.append_nil]; exact Lays.ret d
  | x :: xs, d, h => by
    have e : d ++ x :: xs = (d ++ [x]) ++ xs := by simp
    rw [e] at h ⊢
    have h1 : memOk (d ++ [x]) = true := by
      have : ∀ (a : List Nat) (n : Nat) (b : List Nat), rises n (a ++ b) = true → rises n a = true := fun a => by
        induction a with
        | nil => intro n b _; rfl
        | cons z a ih => intro n b hb; rw [List.cons_append, rises, Bool.and_eq_true] at hb; rw [rises, Bool.and_eq_true]; exact ⟨hb.1, ih z b hb.2⟩
      simp [memOk, this _ _ _ h]
    have h2 := (lays_num x).bind (q := fun y => if memOk (d ++ [y]) = true then idsH wrH (d ++ [y]) xs else failP 3) (by rw [if_pos h1]; exact lays_ids xs (d ++ [x]) h)
    exact h2
theorem lays_walk (m : Mg) (hok : m.Ok) (h : formedM m = true) : Lays (walkH wrH m) m (putM m) := by
  simp only [formedM, headOk, restOk, nodeOk, termOk, Bool.and_eq_true, decide_eq_true_eq] at h
  obtain ⟨⟨hk, hf, ho, ht⟩, ⟨hb, ⟨hi, hl, hc⟩, he4, hg⟩, hall, hmem⟩ := h
  have hkn : (m.k % 256).toNat = m.k.toNat := by omega
  refine Lays.cast (b := [UInt8.ofNat (m.k % 256).toNat] ++ (numL m.f ++ (numL m.o ++ (numL m.t ++ bodyL m)))) ?_ rfl
  unfold walkH
  refine (lays_octet _).bind ?_
  rw [if_pos (by omega)]
  refine (lays_within hf.1 hf.2).bind ((lays_within ho.1 ho.2).bind ((lays_within ht.1 ht.2).bind ?_))
  rw [hkn]
  obtain ⟨k, f, o, t, i, l, c, s, y, e, mm, g⟩ := m
  simp only at hk hb hi hl hc he4 hg hall hmem hok ⊢
  rcases kind_cases hk with rfl | rfl | rfl | rfl | rfl
  · simp only [bareM, if_pos, Mg.mk.injEq, true_and] at hb
    obtain ⟨rfl, rfl, rfl, rfl, rfl, rfl⟩ := hb
    simp only [bodyH, bodyL, if_pos, show ((1 : Int).toNat = 1) from rfl]
    refine (lays_within (Nat.zero_le _) hi).bind (lays_within (Nat.zero_le _) hl).last
  · simp only [bareM, if_pos, Mg.mk.injEq, true_and, if_neg (show ¬ (2 : Int) = 1 by decide)] at hb
    obtain ⟨rfl, rfl, rfl, rfl, rfl, rfl, rfl⟩ := hb
    simp only [bodyH, bodyL, if_pos, show ((2 : Int).toNat = 2) from rfl, if_neg (show ¬ (2 : Int) = 1 by decide), if_neg (show ¬ (2 : Nat) = 1 by decide)]
    exact (lays_yes y).last
  · simp only [bareM, if_pos, Mg.mk.injEq, true_and, if_neg (show ¬ (3 : Int) = 1 by decide), if_neg (show ¬ (3 : Int) = 2 by decide)] at hb
    obtain ⟨rfl, rfl, rfl⟩ := hb
    simp only [bodyH, bodyL, if_pos, show ((3 : Int).toNat = 3) from rfl, if_neg (show ¬ (3 : Int) = 1 by decide), if_neg (show ¬ (3 : Int) = 2 by decide), if_neg (show ¬ (3 : Nat) = 1 by decide), if_neg (show ¬ (3 : Nat) = 2 by decide)]
    have he : Lays (entriesH wrH e) e (numL e.length ++ entsL e) := by
      unfold entriesH
      refine (lays_num _).bind ?_
      rw [if_pos he4, fillE_self]
      exact lays_ents e [] hok.e hall
    refine (lays_within (Nat.zero_le _) hi).bind ((lays_within (Nat.zero_le _) hl).bind ((lays_within (Nat.zero_le _) hc).bind ((lays_num s).bind he.last)))
  · simp only [bareM, if_pos, Mg.mk.injEq, true_and, if_neg (show ¬ (4 : Int) = 1 by decide), if_neg (show ¬ (4 : Int) = 2 by decide), if_neg (show ¬ (4 : Int) = 3 by decide)] at hb
    obtain ⟨rfl, rfl, rfl, rfl, rfl⟩ := hb
    simp only [bodyH, bodyL, if_pos, show ((4 : Int).toNat = 4) from rfl, if_neg (show ¬ (4 : Int) = 1 by decide), if_neg (show ¬ (4 : Int) = 2 by decide), if_neg (show ¬ (4 : Int) = 3 by decide), if_neg (show ¬ (4 : Nat) = 1 by decide), if_neg (show ¬ (4 : Nat) = 2 by decide), if_neg (show ¬ (4 : Nat) = 3 by decide)]
    exact ((lays_yes y).bind ((lays_within (Nat.zero_le _) hi).bind (lays_num s).last))
  · simp only [bareM, if_pos, Mg.mk.injEq, true_and, if_neg (show ¬ (5 : Int) = 1 by decide), if_neg (show ¬ (5 : Int) = 2 by decide), if_neg (show ¬ (5 : Int) = 3 by decide), if_neg (show ¬ (5 : Int) = 4 by decide)] at hb
    obtain ⟨rfl, rfl, rfl, -⟩ := hb
    have hmo : memOk mm = true := by simpa using hmem
    have hml := memOk_len hmo
    have hri : rises 0 mm = true := by simp [memOk] at hmo; exact hmo.2
    have he : Lays (membersH wrH mm) mm (numL mm.length ++ idsL mm) := by
      unfold membersH
      refine (lays_within hml.1 hml.2).bind ?_
      rw [fillN_self]
      exact lays_ids mm [] hri
    simp only [bodyH, bodyL, show ((5 : Int).toNat = 5) from rfl, if_neg (show ¬ (5 : Int) = 1 by decide), if_neg (show ¬ (5 : Int) = 2 by decide), if_neg (show ¬ (5 : Int) = 3 by decide), if_neg (show ¬ (5 : Int) = 4 by decide), if_pos, if_neg (show ¬ (5 : Nat) = 1 by decide), if_neg (show ¬ (5 : Nat) = 2 by decide), if_neg (show ¬ (5 : Nat) = 3 by decide), if_neg (show ¬ (5 : Nat) = 4 by decide)]
    refine ((lays_within (Nat.zero_le _) hi).bind ((lays_within (Nat.zero_le _) hl).bind ((lays_num s).bind (he.bind (lays_text hg).last)))).cast ?_
    simp only [List.append_assoc]

theorem within_wr {n lo hi x : Nat} {l r : List UInt8} (h : withinH wrH n lo hi l = .ok (x, r)) : x = n ∧ lo ≤ n ∧ n ≤ hi := by
  obtain ⟨y, t, h1, h2⟩ := bindP_back h
  obtain ⟨h3, h4⟩ := ite_back h2
  obtain ⟨rfl, rfl⟩ := retP_back h4
  have h1 : (Except.ok (n, l ++ numL n) : Except Nat _) = .ok (x, r) := h1
  simp only [Except.ok.injEq, Prod.mk.injEq] at h1
  obtain ⟨rfl, -⟩ := h1
  exact ⟨rfl, h3.1, h3.2⟩
theorem ents_wr : ∀ (es d xs : List Ent) (l r : List UInt8), entsH wrH d es l = .ok (xs, r) → xs = d ++ es ∧ es.all formed = true
  | [], d, xs, l, r, h => by
    obtain ⟨rfl, rfl⟩ := retP_back (show retP d l = .ok (xs, r) from h)
    simp
  | e :: es, d, xs, l, r, h => by
    obtain ⟨x, t, h1, h2⟩ := bindP_back (show bindP (wrH.entry e) _ l = .ok (xs, r) from h)
    have h1 : (if formed e = true then if (putL e).length ≤ 128 then (.ok (e, l ++ (numL (putL e).length ++ putL e)) : Except Nat _) else .error 4 else .error 1) = .ok (x, t) := h1
    split at h1
    · rename_i hf
      split at h1
      · simp only [Except.ok.injEq, Prod.mk.injEq] at h1
        obtain ⟨rfl, -⟩ := h1
        obtain ⟨h3, h4⟩ := ents_wr es _ _ _ _ h2
        refine ⟨by rw [h3]; simp, by rw [List.all_cons, hf, h4]; rfl⟩
      · cases h1
    · cases h1
theorem ids_wr : ∀ (ys d xs : List Nat) (l r : List UInt8), idsH wrH d ys l = .ok (xs, r) → xs = d ++ ys ∧ (ys ≠ [] → memOk (d ++ ys) = true)
  | [], d, xs, l, r, h => by
    obtain ⟨rfl, rfl⟩ := retP_back (show retP d l = .ok (xs, r) from h)
    exact ⟨by simp, fun h => absurd rfl h⟩
  | y :: ys, d, xs, l, r, h => by
    obtain ⟨x, t, h1, h2⟩ := bindP_back (show bindP (wrH.number y) _ l = .ok (xs, r) from h)
    have h1 : (Except.ok (y, l ++ numL y) : Except Nat _) = .ok (x, t) := h1
    simp only [Except.ok.injEq, Prod.mk.injEq] at h1
    obtain ⟨rfl, -⟩ := h1
    obtain ⟨h3, h4⟩ := ite_back h2
    obtain ⟨h5, h6⟩ := ids_wr ys _ _ _ _ h4
    have e : d ++ y :: ys = (d ++ [y]) ++ ys := by simp
    refine ⟨by rw [h5, e], fun _ => ?_⟩
    rw [e]
    cases ys with
    | nil => rw [List.append_nil]; exact h3
    | cons z zs => exact h6 (by simp)

theorem walk_wr {m : Mg} {l r : List UInt8} (h : walkH wrH m l = .ok (m, r)) : formedM m = true := by
  obtain ⟨k, l1, h1, h2⟩ := bindP_back h
  obtain ⟨hk, h2⟩ := ite_back h2
  obtain ⟨f, l2, h3, h4⟩ := bindP_back h2
  obtain ⟨o, l3, h5, h6⟩ := bindP_back h4
  obtain ⟨t, l4, h7, h8⟩ := bindP_back h6
  obtain ⟨rfl, f1, f2⟩ := within_wr h3
  obtain ⟨rfl, o1, o2⟩ := within_wr h5
  obtain ⟨rfl, t1, t2⟩ := within_wr h7
  clear h h1 h2 h3 h4 h5 h6 h7
  unfold bodyH at h8
  rcases (show k = 1 ∨ k = 2 ∨ k = 3 ∨ k = 4 ∨ k = 5 by omega) with rfl | rfl | rfl | rfl | rfl
  · rw [if_pos rfl] at h8
    obtain ⟨i, u1, a1, b1⟩ := bindP_back h8
    obtain ⟨j, u2, a2, b2⟩ := bindP_back b1
    obtain ⟨e, -⟩ := retP_back b2
    obtain ⟨-, -, c2⟩ := within_wr a1
    obtain ⟨-, -, d2⟩ := within_wr a2
    clear a1 a2 b1 b2 h8
    obtain ⟨k, f, o, t, i', l', c, s, y, es, mm, g⟩ := m
    simp only [Mg.mk.injEq] at e
    obtain ⟨rfl, -, -, -, -, -, rfl, rfl, rfl, rfl, rfl, rfl⟩ := e
    simp only at f1 f2 o1 o2 t1 t2 c2 d2
    simp [formedM, headOk, restOk, nodeOk, termOk, bareM, f1, f2, o1, o2, t1, t2, c2, d2]
  · rw [if_neg (by decide), if_pos rfl] at h8
    obtain ⟨y', u1, a1, b1⟩ := bindP_back h8
    obtain ⟨e, -⟩ := retP_back b1
    clear a1 b1 h8
    obtain ⟨k, f, o, t, i', l', c, s, y, es, mm, g⟩ := m
    simp only [Mg.mk.injEq] at e
    obtain ⟨rfl, -, -, -, rfl, rfl, rfl, rfl, -, rfl, rfl, rfl⟩ := e
    simp only at f1 f2 o1 o2 t1 t2
    simp [formedM, headOk, restOk, nodeOk, termOk, bareM, f1, f2, o1, o2, t1, t2]
  · rw [if_neg (by decide), if_neg (by decide), if_pos rfl] at h8
    obtain ⟨i, u1, a1, b1⟩ := bindP_back h8
    obtain ⟨j, u2, a2, b2⟩ := bindP_back b1
    obtain ⟨c', u3, a3, b3⟩ := bindP_back b2
    obtain ⟨s', u4, a4, b4⟩ := bindP_back b3
    obtain ⟨xs, u5, a5, b5⟩ := bindP_back b4
    obtain ⟨e, -⟩ := retP_back b5
    obtain ⟨-, -, c2⟩ := within_wr a1
    obtain ⟨-, -, d2⟩ := within_wr a2
    obtain ⟨-, -, e2⟩ := within_wr a3
    obtain ⟨n, u6, a6, b6⟩ := bindP_back (show bindP (wrH.number m.e.length) _ u4 = .ok (xs, u5) from a5)
    have a6 : (Except.ok (m.e.length, u4 ++ numL m.e.length) : Except Nat _) = .ok (n, u6) := a6
    simp only [Except.ok.injEq, Prod.mk.injEq] at a6
    obtain ⟨rfl, -⟩ := a6
    obtain ⟨hn4, b6⟩ := ite_back b6
    rw [fillE_self] at b6
    obtain ⟨-, hall⟩ := ents_wr _ _ _ _ _ b6
    clear a1 a2 a3 a4 a5 b1 b2 b3 b4 b5 b6 h8
    obtain ⟨k, f, o, t, i', l', c, s, y, es, mm, g⟩ := m
    simp only [Mg.mk.injEq] at e
    obtain ⟨rfl, -, -, -, -, -, -, -, rfl, -, rfl, rfl⟩ := e
    simp only at f1 f2 o1 o2 t1 t2 c2 d2 e2 hn4 hall
    simp only [formedM, headOk, restOk, nodeOk, termOk, bareM]
    simp [f1, f2, o1, o2, t1, t2, c2, d2, e2, hn4]
    simpa using hall
  · rw [if_neg (by decide), if_neg (by decide), if_neg (by decide), if_pos rfl] at h8
    obtain ⟨y', u1, a1, b1⟩ := bindP_back h8
    obtain ⟨i, u2, a2, b2⟩ := bindP_back b1
    obtain ⟨s', u3, a3, b3⟩ := bindP_back b2
    obtain ⟨e, -⟩ := retP_back b3
    obtain ⟨-, -, c2⟩ := within_wr a2
    clear a1 a2 a3 b1 b2 b3 h8
    obtain ⟨k, f, o, t, i', l', c, s, y, es, mm, g⟩ := m
    simp only [Mg.mk.injEq] at e
    obtain ⟨rfl, -, -, -, -, rfl, rfl, -, -, rfl, rfl, rfl⟩ := e
    simp only at f1 f2 o1 o2 t1 t2 c2
    simp [formedM, headOk, restOk, nodeOk, termOk, bareM, f1, f2, o1, o2, t1, t2, c2]
  · rw [if_neg (by decide), if_neg (by decide), if_neg (by decide), if_neg (by decide)] at h8
    obtain ⟨i, u1, a1, b1⟩ := bindP_back h8
    obtain ⟨j, u2, a2, b2⟩ := bindP_back b1
    obtain ⟨s', u3, a3, b3⟩ := bindP_back b2
    obtain ⟨xs, u4, a4, b4⟩ := bindP_back b3
    obtain ⟨g', u5, a5, b5⟩ := bindP_back b4
    obtain ⟨e, -⟩ := retP_back b5
    obtain ⟨-, -, c2⟩ := within_wr a1
    obtain ⟨-, -, d2⟩ := within_wr a2
    obtain ⟨n, u6, a6, b6⟩ := bindP_back (show bindP (withinH wrH m.m.length 1 7) _ u3 = .ok (xs, u4) from a4)
    obtain ⟨rfl, n1, n2⟩ := within_wr a6
    rw [fillN_self] at b6
    obtain ⟨-, hmem⟩ := ids_wr _ _ _ _ _ b6
    have hmem := hmem (by intro e; rw [e] at n1; simp at n1)
    have hg : m.g.length ≤ 16384 := by
      have a5 : (if m.g.length ≤ 16384 then (.ok (m.g, u4 ++ (numL m.g.length ++ m.g)) : Except Nat _) else .error 4) = .ok (g', u5) := a5
      split at a5
      · assumption
      · cases a5
    clear a1 a2 a3 a4 a5 a6 b1 b2 b3 b4 b5 b6 h8
    obtain ⟨k, f, o, t, i', l', c, s, y, es, mm, g⟩ := m
    simp only [Mg.mk.injEq] at e
    obtain ⟨rfl, -, -, -, -, -, rfl, -, rfl, rfl, -, -⟩ := e
    simp only at f1 f2 o1 o2 t1 t2 c2 d2 hg hmem
    rw [List.nil_append] at hmem
    simp [formedM, headOk, restOk, nodeOk, termOk, bareM, f1, f2, o1, o2, t1, t2, c2, d2, hg, hmem]

/-- What Put answers, by the walk. -/
theorem put_walk {m t : Mg} {l : List UInt8} (hok : m.Ok) (h : walkH wrH m [] = .ok (t, l)) : (t = m ∧ formedM m = true ∧ l = putM m) ∨ (t ≠ m ∧ formedM m = false) := by
  by_cases e : t = m
  · subst e
    have hf := walk_wr h
    have h2 := lays_walk t hok hf []
    rw [h] at h2
    simp only [Except.ok.injEq, Prod.mk.injEq, true_and, List.nil_append] at h2
    exact .inl ⟨rfl, hf, h2⟩
  · refine .inr ⟨e, ?_⟩
    cases hf : formedM m with
    | false => rfl
    | true =>
      have h2 := lays_walk m hok hf []
      rw [h] at h2
      simp only [Except.ok.injEq, Prod.mk.injEq] at h2
      exact absurd h2.1 e
theorem put_lost {m : Mg} {c : Nat} (hok : m.Ok) (h : walkH wrH m [] = .error c) : formedM m = false := by
  cases hf : formedM m with
  | false => rfl
  | true =>
    have h2 := lays_walk m hok hf []
    rw [h] at h2
    cases h2
end Go.Proofs.Ytgbhfolbkgibfaa.MsgMath

