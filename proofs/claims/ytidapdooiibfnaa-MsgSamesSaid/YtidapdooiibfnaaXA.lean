/- Joined: MsgNums, Stores, MsgStores, MsgBare. -/
import Derived.Test.YtidapdooiibfnaaHK
import Derived.Test.YtidapdooiibfnaaHC
import Derived.Test.YtidapdooiibfnaaHD
import Derived.Test.YtidapdooiibfnaaHG
/- Layer 18's reference: numbers as bytes; a flag. -/
namespace Go.Proofs.Ytidapdooiibfnaa
set_option maxRecDepth 20000
open Go.RowKit BinMath CmdMath

set_option maxHeartbeats 2000000 in
theorem numbers_any (v : Value) (l : List Nat) (w : World) (hv : Nums w v l) (hl : l.length ≤ 1000) (hb : ∀ x ∈ l, x < 18446744073709551616) :
    Calls Try.prog 21 #[v] w fun r w' => ∃ u, r = .returned u ∧ Row w' w.heap.size u (idsL l) ∧ Below w.heap.size w w' := by
  obtain ⟨b, cb, rfl⟩ := hv.shape
  obtain ⟨nm, hnm⟩ : ∃ nm, nm = l.length := ⟨_, rfl⟩
  rw [← hnm] at hv hl ⊢
  have HNM := Lib.hid hnm
  have HM2 := Lib.hid hv.at
  have HMl := Lib.hid hb
  obtain ⟨g, hg⟩ : ∃ g, g = w.heap.size := ⟨_, rfl⟩
  have HG := Lib.hid hg
  have HI := Lib.hid (fun i => Nat.le_trans (idsL_len (l.take i) fun x hx => hb x (List.mem_of_mem_take hx)) (Nat.mul_le_mul_left 9 (Nat.le_trans (by rw [List.length_take]; exact Nat.min_le_right _ _) (hnm ▸ hl))))
  have HR0 := Lib.hid (show Row w g (.slice none 0 0) (idsL (l.take 0)) from by rw [List.take_zero]; exact ⟨rfl, .inl ⟨rfl, rfl⟩⟩)
  rw [← hg]
  clear hnm hv hb hg
  go_enter Try.func21, Try.ntmps21
  go_wp2
  go_loopw [3, 4] (fun s3 s4 wr => ∃ i : Nat, i ≤ nm ∧ s4 = .int .i64 (i : Int) ∧ Row wr g s3 (idsL (l.take i)) ∧ Below g w wr) (fun _ s4 _ => nm - (intOf s4).toNat)
  case atStart => exact ⟨0, by omega, rfl, HR0.out, by rw [HG.out]; exact Below.refl _ _⟩
  case round =>
    obtain ⟨i, hi, rfl, hrow, hbw⟩ := hrel
    by_cases hlt : i < nm
    · have hil : i < l.length := by have := HNM.out; omega
      obtain ⟨ad, rfl, hc⟩ := HM2.out.2.2 i hil
      have hst := idsL_step l i hil
      have hy := HMl.out l[i] (List.getElem_mem _)
      obtain ⟨y, hye⟩ : ∃ y, y = l[i] := ⟨_, rfl⟩
      rw [← hye] at hc hst hy
      have hc1 : wr.cell? (ad.add i) = some (.int .u64 (y : Int)) := by rw [hbw.cell (p := ad.add i) (by rw [HG.out]; exact World.block_lt_of_cell? w _ hc)]; exact hc
      have HST := Lib.hid hst
      have HRw := Lib.hid hrow
      have HBw := Lib.hid hbw
      have hil2 := HI.out i
      have hy9 := numL_le y hy
      clear hst hye hil hrow hbw hc
      go_wp2_with fail
      refine (refnum_any y _ hy).mono ?_
      rintro r wc ⟨u1, rfl, hr, hb⟩
      have A1 := append_bys (B := g) (Nat.le_trans (Nat.le_trans (Nat.le_of_eq HG.out) HBw.out.size) hb.size) (HRw.out.below hb) hr.bys (by omega)
      have HA1 := Lib.hid A1
      have HRc := Lib.hid (HRw.out.below hb)
      have HBc := Lib.hid (HBw.out.trans (hb.mono (Nat.le_trans (Nat.le_of_eq HG.out) HBw.out.size)))
      clear hr hb A1 hc1
      go_wp2_with (at_builtin; refine wpList_append_by rfl _ _ 25 rfl _ _ rfl rfl _ HA1.out ?_; rintro v6 wd ⟨hr, hgr⟩; (have HRd := Lib.hid hr); (have HBd := Lib.hid (HBc.out.grown hgr (Nat.le_trans (Nat.le_of_eq HG.out) HBc.out.size) fun k hk => (World.ownsRow.lt HRc.out k hk).1)); clear hr hgr)
      go_round
      case rel => exact ⟨i + 1, by omega, by go_num, by rw [HST.out]; exact HRd.out, HBd.out⟩
      case measure => simp [intOf]; omega
    · have e : l.take i = l := List.take_of_length_le (by have := HNM.out; omega)
      rw [e] at hrow
      have HRw := Lib.hid hrow
      have HBw := Lib.hid hbw
      clear hrow hbw
      go_wp2
      go_ret
      exact ⟨_, rfl, HRw.out, HBw.out⟩

theorem flag_any (y : Bool) (w : World) : Calls Try.prog 22 #[.bool y] w fun r w' => r = .returned (bv (MsgMath.flagL y)) ∧ w' = w := by
  cases y with
  | true =>
    go_enter Try.func22, Try.ntmps22
    go_wp2
    go_ret
    exact ⟨rfl, rfl⟩
  | false =>
    go_enter Try.func22, Try.ntmps22
    go_wp2
    go_ret
    exact ⟨rfl, rfl⟩
end Go.Proofs.Ytidapdooiibfnaa

/- A region that draws its order, told by facts, some of whose operations write memory in any place among the others: what is told of the world looks at what has come up. -/
namespace Go.Proofs.Ytidapdooiibfnaa.Reg
set_option maxRecDepth 20000
open Go.RowKit

/-- As asked, of what has come up, too. -/
def askedL (P : Program) (ops : Array Oper) (tab : List (List Nat)) (fin : List Tmp) (Gl : Array Bool → World → Prop) (F : Tmp → Value → World → Prop) (i : Nat) (o : Oper) : Prop :=
  ∀ (x : Tmp → Value) (W : World) (L : Array Bool), L.size = ops.size → L.getD i false = false → Gl L W → (∀ k, (o.looksAt ops).contains k = true → F k (x k) W) →
    wantedBy ops o x ∧ gives P o x W (fun v W' => Gl (L.setIfInBounds i true) W' ∧ (∀ k u, o.dst ≠ some k → live ops tab fin i k = true → F k u W → F k u W') ∧ ∀ k, o.dst = some k → F k v W')

theorem any_of_inv_l {P : Program} {ops : Array Oper} {tab : List (List Nat)} {fin : List Tmp} {Gl : Array Bool → World → Prop} {F : Tmp → Value → World → Prop} {a0 : Act} {Q : Exit → Act → World → Prop} (hs : sound ops = true) (ht : tableOk ops tab = true)
    (hd : ∀ (i : Nat) (o : Oper), ops[i]? = some o → ∀ d, o.dst = some d → d < a0.tmps.size)
    (hops : ∀ (i : Nat) (o : Oper), ops[i]? = some o → askedL P ops tab fin Gl F i o)
    (hend : ∀ (listed : Array Bool) a W, (∀ i, i < ops.size → listed.getD i false = true) → Gl listed W → a.defers = a0.defers → a.tmps.size = a0.tmps.size → (∀ k, fin.contains k = true → F k (a.tmps.getD k undef) W) → Q .normal a W) :
    ∀ (fuel : Nat) (listed : Array Bool) (a : Act) (W : World), left listed ≤ fuel → Gl listed W → Inv ops fin (fun _ => True) F a0 listed a W → wpAny P .any ops Q fuel listed a W := by
  have done : ∀ (listed : Array Bool) (a : Act) (W : World), Gl listed W → Inv ops fin (fun _ => True) F a0 listed a W → Region.ready .any ops listed = [] → Q .normal a W := fun listed a W hgl h hr =>
    hend listed a W (all_listed hs h.lsize hr) hgl h.defers h.size fun k hk => h.facts k (fun i o hi _ => all_listed hs h.lsize hr i (Array.getElem?_eq_some_iff.1 hi).1) (.inl hk)
  intro fuel
  induction fuel with
  | zero =>
    intro listed a W hf hgl h
    have hr : Region.ready .any ops listed = [] := by
      cases hq : Region.ready .any ops listed with
      | nil => rfl
      | cons j js =>
        have hj : j ∈ Region.ready .any ops listed := by rw [hq]; simp
        have := left_set (mem_ready.1 hj).1
        omega
    exact ⟨hr, done listed a W hgl h hr⟩
  | succ fuel ih =>
    intro listed a W hf hgl h
    refine ⟨fun hr => done listed a W hgl h hr, fun i hi => ?_⟩
    obtain ⟨hun, o, ho, hall⟩ := mem_ready.1 hi
    have hil : i < ops.size := (Array.getElem?_eq_some_iff.1 ho).1
    have hun' : listed.getD i false = false := by
      rw [Array.getD_eq_getD_getElem?, Array.getElem?_eq_getElem (by rw [h.lsize]; exact hil)] at hun ⊢
      exact hun
    have hsd := sound_edge hs ho
    have hp : ∀ j ∈ preds ops i, listed.getD j false = true := fun j hj => by
      obtain ⟨e, he, hb, rfl⟩ := (mem_preds ho).1 hj
      exact hall e he hb
    have hF : ∀ k, (o.looksAt ops).contains k = true → F k (a.tmps.getD k undef) W := fun k hk => h.facts k (fun j oj hj hdj => by
      obtain ⟨e, he, hb, rfl⟩ := hsd.2 k (by simpa using hk) j oj hj hdj
      exact hall e he hb) (.inr ⟨i, o, ho, hk, hun'⟩)
    obtain ⟨hw, hg⟩ := hops i o ho (fun t => a.tmps.getD t undef) W listed h.lsize hun' hgl hF
    unfold wpOp
    simp only [ho, wanted_of hw, if_true]
    refine .inl (wp_of_gives hg fun v w' ⟨h1, h2, h3⟩ => ih _ _ _ ?_ h1 (inv_step ht h ho hp (hd i o ho) trivial h2 h3))
    have := left_set hun
    omega


theorem wp_region_l {P : Program} {ops : Array Oper} {id : Nat} {a : Act} {w : World} {Q : Exit → Act → World → Prop} (tab : List (List Nat)) (fin : List Tmp) (Gl : Array Bool → World → Prop) (F : Tmp → Value → World → Prop)
    (hm : P.follows .mixedOrders = true) (hs : sound ops = true) (ht : tableOk ops tab = true) (hd : (ops.all fun o => (o.dst.map fun d => decide (d < a.tmps.size)).getD true) = true)
    (hG : Gl (Array.replicate ops.size false) w.drew) (h0 : ∀ k, F k (a.tmps.getD k undef) w.drew ∨ (ops.any fun o => o.dst == some k) = true)
    (hops : ∀ (i : Nat) (o : Oper), ops[i]? = some o → askedL P ops tab fin Gl F i o)
    (hend : ∀ (listed : Array Bool) a' W, (∀ i, i < ops.size → listed.getD i false = true) → Gl listed W → a'.defers = a.defers → a'.tmps.size = a.tmps.size → (∀ k, fin.contains k = true → F k (a'.tmps.getD k undef) W) → Q .normal a' W) : (Code.region id ops true).wp P Q a w := by
  refine wp_region_any hm (any_of_inv_l (tab := tab) (fin := fin) (Gl := Gl) (F := F) (a0 := a) hs ht ?_ hops hend _ _ _ _ ?_ hG ?_)
  · intro i o hi d hdst
    have := Array.all_eq_true_iff_forall_mem.1 hd o (Array.mem_of_getElem? hi)
    simpa [hdst] using this
  · unfold left
    refine Nat.le_trans (List.length_filter_le _ _) (by simp)
  · refine ⟨trivial, rfl, rfl, by simp, fun i o hi hl => ?_, fun k hk _ => ?_⟩
    · rw [Array.getD_eq_getD_getElem?] at hl
      simp [Array.getElem?_replicate] at hl
      split at hl <;> simp at hl
    · rcases h0 k with h | h
      · exact h
      · obtain ⟨o, ho, hdst⟩ := Array.any_eq_true'.1 h
        obtain ⟨i, hi⟩ := Array.mem_iff_getElem?.1 ho
        have := hk i o hi (by simpa using hdst)
        rw [Array.getD_eq_getD_getElem?] at this
        simp [Array.getElem?_replicate] at this
        split at this <;> simp at this
section
variable {P : Program} {ops : Array Oper} {tab : List (List Nat)} {fin : List Tmp} {f : Tmp → Fact} {i : Nat} {o : Oper}

def AskedAllL (P : Program) (ops : Array Oper) (tab : List (List Nat)) (fin : List Tmp) (Gl : Array Bool → World → Prop) (f : Tmp → Fact) : Nat → List Oper → Prop
  | _, [] => True
  | i, o :: r => askedL P ops tab fin Gl (fun k v W => (f k).holds v W) i o ∧ AskedAllL P ops tab fin Gl f (i + 1) r

theorem asked_of_all_l {Gl : Array Bool → World → Prop} : ∀ (l : List Oper) (n : Nat), AskedAllL P ops tab fin Gl f n l → ∀ (i : Nat) (o : Oper), l[i]? = some o → askedL P ops tab fin Gl (fun k v W => (f k).holds v W) (n + i) o
  | [], _, _, i, o, h => by simp at h
  | _ :: r, n, h, 0, o, hi => by
    simp at hi
    subst hi
    exact h.1
  | _ :: r, n, h, i + 1, o, hi => by
    have := asked_of_all_l r (n + 1) h.2 i o (by simpa using hi)
    rwa [show n + 1 + i = n + (i + 1) by omega] at this

theorem set_other {L : Array Bool} {i p : Nat} (h : i ≠ p) : (L.setIfInBounds i true).getD p false = L.getD p false := by
  rw [Array.getD_eq_getD_getElem?, Array.getElem?_setIfInBounds_ne h, ← Array.getD_eq_getD_getElem?]

theorem set_at {L : Array Bool} {p : Nat} (h : p < L.size) : (L.setIfInBounds p true).getD p false = true := by
  rw [Array.getD_eq_getD_getElem?, Array.getElem?_setIfInBounds_self]
  simp [h]

variable {p q : Nat} {H : Bool → Bool → World → Prop}

end

theorem region_by_l {P : Program} {ops : Array Oper} {id : Nat} {a : Act} {w : World} {Q : Exit → Act → World → Prop} (l : List (Tmp × Fact)) (fin : List Tmp) (Gl : Array Bool → World → Prop)
    (hm : P.follows .mixedOrders = true) (hs : sound ops = true) (ht : tableOk ops (table ops) = true) (hd : (ops.all fun o => (o.dst.map fun d => decide (d < a.tmps.size)).getD true) = true)
    (hl : (l.all fun p => ops.any fun o => o.dst == some p.1) = true) (hG : Gl (Array.replicate ops.size false) w.drew)
    (hops : AskedAllL P ops (table ops) fin Gl (factsOf l a) 0 ops.toList)
    (hend : ∀ (listed : Array Bool) a' W, (∀ i, i < ops.size → listed.getD i false = true) → Gl listed W → a'.defers = a.defers → a'.tmps.size = a.tmps.size → (∀ k, fin.contains k = true → (factsOf l a k).holds (a'.tmps.getD k undef) W) → Q .normal a' W) : (Code.region id ops true).wp P Q a w := by
  refine wp_region_l (table ops) fin Gl (fun k v W => (factsOf l a k).holds v W) hm hs ht hd hG (fun k => ?_) (fun i o hi => ?_) hend
  · cases hk : l.lookup k with
    | none => left; simp [factsOf, hk, Fact.holds]
    | some fk =>
      right
      have hmem : (k, fk) ∈ l := by
        clear hl hops hend
        induction l with
        | nil => simp at hk
        | cons p l ih =>
          obtain ⟨p1, p2⟩ := p
          rw [List.lookup_cons] at hk
          by_cases hkp : (k == p1) = true
          · rw [hkp] at hk
            simp at hk hkp
            subst hk hkp
            simp
          · simp only [hkp] at hk
            exact List.mem_cons_of_mem _ (ih hk)
      exact List.all_eq_true.1 hl _ hmem
  · have := asked_of_all_l ops.toList 0 hops i o (by simpa using hi)
    rwa [Nat.zero_add] at this

/-- A store, as an operation of a region. -/
theorem gives_store {P : Program} {o : Oper} {x : Tmp → Value} {W W' : World} {R : Value → World → Prop} (ty : TypeId) (s t : Operand) (ho : o.op = .store ty s t) (p v : Value) (hs : evalBy x s = p) (ht : evalBy x t = v)
    (hr : (Instr.storeAt ty p v).run P W = .ok () W') (hR : R undef W') : gives P o x W R := by
  unfold gives
  simp only [execOp, ho, hs, ht, Sem.run_bind, hr, Result.andThen_ok, Sem.run_pure]
  exact hR

/-- Facts that last, of all slots. -/
theorem facts_keep {l : List (Tmp × Fact)} {a : Act} {W W' : World} (h : ∀ p ∈ l, ∀ u, p.2.holds u W → p.2.holds u W') (k : Tmp) (u : Value) (hu : (factsOf l a k).holds u W) : (factsOf l a k).holds u W' := by
  unfold factsOf at *
  cases hk : l.lookup k with
  | none =>
    rw [hk] at hu
    exact hu
  | some fk =>
    rw [hk] at hu
    have hmem : (k, fk) ∈ l := by
      clear hu h
      induction l with
      | nil => simp at hk
      | cons p l ih =>
        obtain ⟨p1, p2⟩ := p
        rw [List.lookup_cons] at hk
        by_cases hkp : (k == p1) = true
        · rw [hkp] at hk
          simp at hk hkp
          subst hk hkp
          simp
        · simp only [hkp] at hk
          exact List.mem_cons_of_mem _ (ih hk)
    exact h _ hmem u hu

end Go.Proofs.Ytidapdooiibfnaa.Reg

/- Fields of one block are written by many operations of a region, in any order. -/
namespace Go.Proofs.Ytidapdooiibfnaa.Reg
set_option maxRecDepth 20000
open Go.RowKit

/-- What a cell is to be: of the stores that have come up, or as it was. -/
def Sts.cell (cur : Array Value) (sts : List (Nat × Nat × Value)) (L : Array Bool) (j : Nat) : Option Value :=
  match sts.find? (fun s => s.2.1 == j && L.getD s.1 false) with
  | some s => some s.2.2
  | none => cur[j]?

/-- In the midst of stores into block g: operation, cell and value of each. -/
structure Sts (w0 : World) (g : Nat) (t : TypeId) (cur : Array Value) (sts : List (Nat × Nat × Value)) (L : Array Bool) (W : World) : Prop where
  os : OnlyS (fun k => k = g) w0 W
  ex : ∃ cc : Array Value, Blk W g t cc ∧ cc.size = cur.size ∧ ∀ j, cc[j]? = Sts.cell cur sts L j

theorem find_same {α : Type} (l : List α) (p q : α → Bool) (h : ∀ s ∈ l, p s = q s) : l.find? p = l.find? q := by
  induction l with
  | nil => rfl
  | cons x r ih =>
    rw [List.find?_cons, List.find?_cons, h x (by simp), ih fun s hs => h s (List.mem_cons_of_mem _ hs)]

section
variable {P : Program} {ops : Array Oper} {tab : List (List Nat)} {fin : List Tmp} {f : Tmp → Fact} {i : Nat} {o : Oper} {w0 : World} {g : Nat} {t : TypeId} {cur : Array Value} {sts : List (Nat × Nat × Value)}

/-- An operation that is none of the stores. -/
theorem askedL_none (hi : (sts.all fun s => !(s.1 == i)) = true) (h : ∀ L, Asked P ops tab fin (Sts w0 g t cur sts L) f i o) : askedL P ops tab fin (Sts w0 g t cur sts) (fun k v W => (f k).holds v W) i o := fun x W L _ _ hg hk => by
  have e : Sts w0 g t cur sts (L.setIfInBounds i true) = Sts w0 g t cur sts L := by
    funext W
    have h1 : ∀ j, Sts.cell cur sts (L.setIfInBounds i true) j = Sts.cell cur sts L j := fun j => by
      unfold Sts.cell
      rw [find_same sts _ (fun s => s.2.1 == j && L.getD s.1 false) fun s hs => by
        have h2 := List.all_eq_true.1 hi s hs
        rw [set_other fun e => by simp [e] at h2]]
    exact propext ⟨fun ⟨a, cc, b, c, d⟩ => ⟨a, cc, b, c, fun j => by rw [d, h1]⟩, fun ⟨a, cc, b, c, d⟩ => ⟨a, cc, b, c, fun j => by rw [d, h1]⟩⟩
  rw [e]
  exact h L x W hg hk

/-- One of the stores. -/
theorem askedL_store (hg : guardOk ops f o) (ty : TypeId) (a b : Operand) (j : Nat) (v : Value) (ho : o.op = .store ty a b) (ha : opFact f a = .is (.pointer (some ⟨g, j, none⟩))) (hb : opFact f b = .is v) (hd : o.dst = none)
    (hk : ∀ k u W W', (f k).holds u W → (f k).holds u W') (hil : i < ops.size) (hj : j < cur.size) (h1 : v.oneCell' = true) (hs : (P.info? ty).map (·.size) = some 1)
    (hu1 : ∀ s ∈ sts, s.2.1 = j → s.1 = i ∧ s.2.2 = v) (hu2 : ∃ s ∈ sts, s.1 = i ∧ s.2.1 = j) (hu3 : ∀ s ∈ sts, s.1 = i → s.2.1 = j) : askedL P ops tab fin (Sts w0 g t cur sts) (fun k v W => (f k).holds v W) i o := fun x W L hL _ hg0 ht => by
  refine ⟨guard_ok hg ht, ?_⟩
  obtain ⟨hos, cc, hbk, hsz, hcc⟩ := hg0
  have e1 := evalBy_opVal ht a (by rw [ho]; simp [Op.operands]) ha
  have e2 := evalBy_opVal ht b (by rw [ho]; simp [Op.operands]) hb
  have hset : OnlyS (fun b => b = g) W (W.setCell ⟨g, j, none⟩ v) := (OnlyS.refl (fun b => b = g) W).setCell (p := ⟨g, j, none⟩) (fun _ => rfl) v
  refine gives_store ty a b ho _ _ e1 e2 (run_store_fld hbk ty j (by omega) v h1 hs) ⟨⟨hos.trans hset, _, hbk.set j v, by simpa using hsz, fun j' => ?_⟩, fun k u _ _ hu => hk k u _ _ hu, fun k h => by rw [hd] at h; cases h⟩
  by_cases hjj : j' = j
  · subst hjj
    rw [Array.getElem?_setIfInBounds_self, if_pos (by omega)]
    unfold Sts.cell
    cases hf : sts.find? (fun s => s.2.1 == j' && (L.setIfInBounds i true).getD s.1 false) with
    | some s =>
      have h2 := List.find?_some hf
      simp only [Bool.and_eq_true, beq_iff_eq] at h2
      exact congrArg some (hu1 s (List.mem_of_find?_eq_some hf) h2.1).2.symm
    | none =>
      obtain ⟨s, hs1, hs2, hs3⟩ := hu2
      have h2 := List.find?_eq_none.1 hf s hs1
      rw [hs2, hs3, set_at (L := L) (p := i) (by omega)] at h2
      simp at h2
  · rw [Array.getElem?_setIfInBounds_ne (Ne.symm hjj), hcc]
    unfold Sts.cell
    rw [find_same sts _ (fun s => s.2.1 == j' && (L.setIfInBounds i true).getD s.1 false) fun s hs => by
      by_cases hsj : s.2.1 = j'
      · rw [set_other fun e => hjj (by rw [← hsj]; exact hu3 s hs e.symm)]
      · rw [show (s.2.1 == j') = false from beq_false_of_ne hsj, Bool.false_and, Bool.false_and]]
end

/-- Nothing has come up. -/
theorem Sts.start {w w0 : World} {g : Nat} {t : TypeId} {cur : Array Value} {sts : List (Nat × Nat × Value)} {n : Nat} (hos : OnlyS (fun k => k = g) w0 w) (hb : Blk w g t cur) : Sts w0 g t cur sts (Array.replicate n false) w := by
  refine ⟨hos, cur, hb, rfl, fun j => ?_⟩
  unfold Sts.cell
  rw [List.find?_eq_none.2 fun s _ => ?_]
  rw [Array.getD_eq_getD_getElem?, Array.getElem?_replicate]
  split <;> simp

/-- All have come up. -/
theorem Sts.ended {w w0 : World} {g : Nat} {t : TypeId} {cur : Array Value} {sts : List (Nat × Nat × Value)} {L : Array Bool} {n : Nat} (h : Sts w0 g t cur sts L w) (hL : ∀ i, i < n → L.getD i false = true) (hn : (sts.all fun s => decide (s.1 < n)) = true) (cs : Array Value) (hc : cs.size = cur.size)
    (hcs : ∀ j, j < cur.size → cs[j]? = match sts.find? (fun s => s.2.1 == j) with | some s => some s.2.2 | none => cur[j]?) : OnlyS (fun k => k = g) w0 w ∧ Blk w g t cs := by
  obtain ⟨hos, cc, hb, hs, hcc⟩ := h
  refine ⟨hos, ?_⟩
  have e : cc = cs := by
    apply Array.ext_getElem?
    intro j
    by_cases hj : j < cur.size
    · rw [hcc, hcs j hj]
      unfold Sts.cell
      rw [find_same sts _ (fun s => s.2.1 == j) fun s hs => by
        have h2 := List.all_eq_true.1 hn s hs
        rw [hL s.1 (by simpa using h2), Bool.and_true]]
    · rw [Array.getElem?_eq_none (by omega), Array.getElem?_eq_none (by omega)]
  rw [← e]
  exact hb
end Go.Proofs.Ytidapdooiibfnaa.Reg

/- Layer 18's reference: bare. -/
namespace Go.Proofs.Ytidapdooiibfnaa
set_option maxRecDepth 20000
open Go.RowKit BinMath CmdMath Reg
open MsgMath (Mg)

theorem load_u64m (W : World) (p : Addr) (v : Value) (h : W.cell? p = some v) : (Instr.loadAt 22 (.pointer (some p))).run Try.prog W = .ok v W := by
  have hagg : (isAgg 22).run Try.prog W = .ok false W := by kernel_rfl
  simp [Instr.loadAt, Instr.sureAddr, loadVar, Sem.run_bind, hagg, h]
theorem load_boolm (W : World) (p : Addr) (v : Value) (h : W.cell? p = some v) : (Instr.loadAt 4 (.pointer (some p))).run Try.prog W = .ok v W := by
  have hagg : (isAgg 4).run Try.prog W = .ok false W := by kernel_rfl
  simp [Instr.loadAt, Instr.sureAddr, loadVar, Sem.run_bind, hagg, h]
theorem load_esm (W : World) (p : Addr) (v : Value) (h : W.cell? p = some v) : (Instr.loadAt 23 (.pointer (some p))).run Try.prog W = .ok v W := by
  have hagg : (isAgg 23).run Try.prog W = .ok false W := by kernel_rfl
  simp [Instr.loadAt, Instr.sureAddr, loadVar, Sem.run_bind, hagg, h]
theorem load_nsm (W : World) (p : Addr) (v : Value) (h : W.cell? p = some v) : (Instr.loadAt 24 (.pointer (some p))).run Try.prog W = .ok v W := by
  have hagg : (isAgg 24).run Try.prog W = .ok false W := by kernel_rfl
  simp [Instr.loadAt, Instr.sureAddr, loadVar, Sem.run_bind, hagg, h]
theorem load_bsm (W : World) (p : Addr) (v : Value) (h : W.cell? p = some v) : (Instr.loadAt 25 (.pointer (some p))).run Try.prog W = .ok v W := by
  have hagg : (isAgg 25).run Try.prog W = .ok false W := by kernel_rfl
  simp [Instr.loadAt, Instr.sureAddr, loadVar, Sem.run_bind, hagg, h]
theorem load_intm (W : World) (p : Addr) (v : Value) (h : W.cell? p = some v) : (Instr.loadAt 3 (.pointer (some p))).run Try.prog W = .ok v W := by
  have hagg : (isAgg 3).run Try.prog W = .ok false W := by kernel_rfl
  simp [Instr.loadAt, Instr.sureAddr, loadVar, Sem.run_bind, hagg, h]

def isFact : Fact → Bool
  | .is _ => true
  | _ => false

/-- Values last. -/
theorem facts_is {l : List (Tmp × Fact)} {a : Act} (h : (l.all fun p => isFact p.2) = true) (k : Tmp) (u : Value) (W W' : World) (hu : (factsOf l a k).holds u W) : (factsOf l a k).holds u W' := by
  refine facts_keep (W := W) (fun p hp u hu => ?_) k u hu
  have h1 := List.all_eq_true.1 h p hp
  cases hq : p.2 with
  | is v => rw [hq] at hu; exact hu
  | _ => rw [hq] at h1; simp [isFact] at h1

set_option maxHeartbeats 2000000 in
theorem bare_0 (k : Int) (q1 : (k == 1) = false) (q2 : (k == 2) = false) (q3 : (k == 3) = false) (q4 : (k == 4) = false) (q5 : (k == 5) = false) (f o t i l c s : Nat) (y : Bool) (a b d : Option Addr) (na nb nd ca cb cd : Nat) (w : World) :
    Calls Try.prog 25 #[.agg (#[.int .i64 k, .int .u64 (f : Int), .int .u64 (o : Int), .int .u64 (t : Int), .int .u64 (i : Int), .int .u64 (l : Int), .int .u64 (c : Int), .int .u64 (s : Int), .bool y, .slice a na ca, .slice b nb cb, .slice d nd cd])] w fun r w' => r = .returned (.agg (#[.int .i64 k, .int .u64 (f : Int), .int .u64 (o : Int), .int .u64 (t : Int), .int .u64 0, .int .u64 0, .int .u64 0, .int .u64 0, .bool false, .slice none 0 0, .slice none 0 0, .slice none 0 0])) ∧ Below w.heap.size w w' := by
  go_enter Try.func25, Try.ntmps25
  go_upto_region 2 with fail
  refine world_cut (fun W => Below w.heap.size w W ∧ Blk W w.heap.size 27 (#[.int .i64 k, .int .u64 (f : Int), .int .u64 (o : Int), .int .u64 (t : Int), .int .u64 (i : Int), .int .u64 (l : Int), .int .u64 (c : Int), .int .u64 (s : Int), .bool y, .slice a na ca, .slice b nb cb, .slice d nd cd]) ∧ Blk W (w.heap.size + 1) 27 (#[.int .i64 0, .int .u64 0, .int .u64 0, .int .u64 0, .int .u64 0, .int .u64 0, .int .u64 0, .int .u64 0, .bool false, .slice none 0 0, .slice none 0 0, .slice none 0 0]) ∧ Blk W (w.heap.size + 1 + 1) 27 (#[.int .i64 k, .int .u64 (f : Int), .int .u64 (o : Int), .int .u64 (t : Int), .int .u64 0, .int .u64 0, .int .u64 0, .int .u64 0, .bool false, .slice none 0 0, .slice none 0 0, .slice none 0 0])) ⟨((Below.refl w.heap.size w).alloc (Nat.le_refl _) _).alloc (by simp) _ |>.alloc (by simp; omega) _, ((Blk.new w _ _).alloc _).alloc _, (Blk.newAt _ _ _ _ _ (by simp) rfl).alloc _, Blk.newAt _ _ _ _ _ (by simp) rfl⟩ ?_
  rintro w1 ⟨hb1, k1, k2, k3⟩
  have HB := Lib.hid hb1
  have K1 := Lib.hid k1
  have K2 := Lib.hid k2
  have K3 := Lib.hid k3
  have c0 : w1.cell? ⟨w.heap.size, 0, none⟩ = some (.int .i64 k) := by rw [k1.cell]; rfl
  clear hb1 k1 k2 k3
  go_wp2_with (first | (refine wpList_load_by rfl 27 (.tmp 3) rfl _ _ rfl (K3.out.loads 27 _ Try.underlying27 rfl rfl) ?_) | (refine wpList_store_all rfl 27 (.tmp 2) (.tmp 73) rfl (w.heap.size + 1) (#[.int .i64 k, .int .u64 (f : Int), .int .u64 (o : Int), .int .u64 (t : Int), .int .u64 0, .int .u64 0, .int .u64 0, .int .u64 0, .bool false, .slice none 0 0, .slice none 0 0, .slice none 0 0]) rfl rfl 27 _ K2.out rfl rfl (by simp [Value.oneCell']) ?_; intro w9 hb9 hos9; (have HZ := Lib.hid hb9); (have HB9 := Lib.hid (below_two HB.out hos9 (fun k hk e => by omega) (by have := K2.out.lt; omega))); clear hb9 hos9))
  exact bodyPost_ret (v := .agg (#[.int .i64 k, .int .u64 (f : Int), .int .u64 (o : Int), .int .u64 (t : Int), .int .u64 0, .int .u64 0, .int .u64 0, .int .u64 0, .bool false, .slice none 0 0, .slice none 0 0, .slice none 0 0])) (results_cell_row rfl _ _ (w.heap.size + 1) 27 _ (0, 0) _ rfl HZ.out Try.underlying27 rfl rfl) rfl ⟨rfl, HB9.out⟩

set_option maxHeartbeats 2000000 in
theorem bare_1 (f o t i l c s : Nat) (y : Bool) (a b d : Option Addr) (na nb nd ca cb cd : Nat) (w : World) :
    Calls Try.prog 25 #[.agg (#[.int .i64 1, .int .u64 (f : Int), .int .u64 (o : Int), .int .u64 (t : Int), .int .u64 (i : Int), .int .u64 (l : Int), .int .u64 (c : Int), .int .u64 (s : Int), .bool y, .slice a na ca, .slice b nb cb, .slice d nd cd])] w fun r w' => r = .returned (.agg (#[.int .i64 1, .int .u64 (f : Int), .int .u64 (o : Int), .int .u64 (t : Int), .int .u64 (i : Int), .int .u64 (l : Int), .int .u64 0, .int .u64 0, .bool false, .slice none 0 0, .slice none 0 0, .slice none 0 0])) ∧ Below w.heap.size w w' := by
  go_enter Try.func25, Try.ntmps25
  go_upto_region 2 with fail
  refine world_cut (fun W => Below w.heap.size w W ∧ Blk W w.heap.size 27 (#[.int .i64 1, .int .u64 (f : Int), .int .u64 (o : Int), .int .u64 (t : Int), .int .u64 (i : Int), .int .u64 (l : Int), .int .u64 (c : Int), .int .u64 (s : Int), .bool y, .slice a na ca, .slice b nb cb, .slice d nd cd]) ∧ Blk W (w.heap.size + 1) 27 (#[.int .i64 0, .int .u64 0, .int .u64 0, .int .u64 0, .int .u64 0, .int .u64 0, .int .u64 0, .int .u64 0, .bool false, .slice none 0 0, .slice none 0 0, .slice none 0 0]) ∧ Blk W (w.heap.size + 1 + 1) 27 (#[.int .i64 1, .int .u64 (f : Int), .int .u64 (o : Int), .int .u64 (t : Int), .int .u64 0, .int .u64 0, .int .u64 0, .int .u64 0, .bool false, .slice none 0 0, .slice none 0 0, .slice none 0 0])) ⟨((Below.refl w.heap.size w).alloc (Nat.le_refl _) _).alloc (by simp) _ |>.alloc (by simp; omega) _, ((Blk.new w _ _).alloc _).alloc _, (Blk.newAt _ _ _ _ _ (by simp) rfl).alloc _, Blk.newAt _ _ _ _ _ (by simp) rfl⟩ ?_
  rintro w1 ⟨hb1, k1, k2, k3⟩
  have HB := Lib.hid hb1
  have K1 := Lib.hid k1
  have K2 := Lib.hid k2
  have K3 := Lib.hid k3
  have c0 : w1.cell? ⟨w.heap.size, 0, none⟩ = some (.int .i64 1) := by rw [k1.cell]; rfl
  clear hb1 k1 k2 k3
  go_upto_region 4 with fail
  refine region_by_l [(17, .is (.pointer (some ⟨w.heap.size, 4, none⟩))), (18, .is (.int .u64 (i : Int))), (19, .is (.pointer (some ⟨w.heap.size, 5, none⟩))), (20, .is (.int .u64 (l : Int))), (21, .is (.pointer (some ⟨(w.heap.size + 1 + 1), 4, none⟩))), (22, .is (.pointer (some ⟨(w.heap.size + 1 + 1), 5, none⟩)))] [1, 2, 3] (Sts w1 (w.heap.size + 1 + 1) 27 (#[.int .i64 1, .int .u64 (f : Int), .int .u64 (o : Int), .int .u64 (t : Int), .int .u64 0, .int .u64 0, .int .u64 0, .int .u64 0, .bool false, .slice none 0 0, .slice none 0 0, .slice none 0 0]) [(5, 4, (.int .u64 (i : Int))), (7, 5, (.int .u64 (l : Int)))]) (by kernel_rfl) (by kernel_rfl) (by kernel_rfl) (by kernel_rfl) (by kernel_rfl) (Sts.start ((OnlyS.refl _ w1).drew) (K3.out.keep ((Below.refl _ _).drew))) ?_ ?_
  · refine ⟨?c0, ?c1, ?c2, ?c3, ?c4, ?c5, ?c6, ?c7, trivial⟩
    case c0 => exact askedL_none (by kernel_rfl) (fun L => ask_field (guard_none rfl) _ (.tmp 1) 4 (.pointer (some ⟨w.heap.size, 0, none⟩)) (.pointer (some ⟨w.heap.size, 4, none⟩)) rfl rfl (by intro k hk; cases hk; rfl) (fun W => by kernel_rfl))
    case c1 => exact askedL_none (by kernel_rfl) (fun L => ask_load (guard_none rfl) _ (.tmp 17) (.pointer (some ⟨w.heap.size, 4, none⟩)) (.int .u64 (i : Int)) rfl rfl (by intro k hk; cases hk; rfl) (fun W hW => load_u64m W _ _ (by rw [(K1.out.onlyS hW.os (by omega)).cell]; rfl)))
    case c2 => exact askedL_none (by kernel_rfl) (fun L => ask_field (guard_none rfl) _ (.tmp 1) 5 (.pointer (some ⟨w.heap.size, 0, none⟩)) (.pointer (some ⟨w.heap.size, 5, none⟩)) rfl rfl (by intro k hk; cases hk; rfl) (fun W => by kernel_rfl))
    case c3 => exact askedL_none (by kernel_rfl) (fun L => ask_load (guard_none rfl) _ (.tmp 19) (.pointer (some ⟨w.heap.size, 5, none⟩)) (.int .u64 (l : Int)) rfl rfl (by intro k hk; cases hk; rfl) (fun W hW => load_u64m W _ _ (by rw [(K1.out.onlyS hW.os (by omega)).cell]; rfl)))
    case c4 => exact askedL_none (by kernel_rfl) (fun L => ask_field (guard_none rfl) _ (.tmp 3) 4 (.pointer (some ⟨(w.heap.size + 1 + 1), 0, none⟩)) (.pointer (some ⟨(w.heap.size + 1 + 1), 4, none⟩)) rfl rfl (by intro k hk; cases hk; rfl) (fun W => by kernel_rfl))
    case c5 => exact askedL_store (guard_none rfl) _ (.tmp 21) (.tmp 18) 4 (.int .u64 (i : Int)) rfl rfl rfl rfl (facts_is (by simp [isFact])) (by decide) (by simp) rfl (by kernel_rfl) (by simp) (by simp) (by simp)
    case c6 => exact askedL_none (by kernel_rfl) (fun L => ask_field (guard_none rfl) _ (.tmp 3) 5 (.pointer (some ⟨(w.heap.size + 1 + 1), 0, none⟩)) (.pointer (some ⟨(w.heap.size + 1 + 1), 5, none⟩)) rfl rfl (by intro k hk; cases hk; rfl) (fun W => by kernel_rfl))
    case c7 => exact askedL_store (guard_none rfl) _ (.tmp 22) (.tmp 20) 5 (.int .u64 (l : Int)) rfl rfl rfl rfl (facts_is (by simp [isFact])) (by decide) (by simp) rfl (by kernel_rfl) (by simp) (by simp) (by simp)
  · intro L af W hL hW hd' hs' hf'
    have t1 : af.tmps.getD 1 undef = (.pointer (some ⟨w.heap.size, 0, none⟩)) := hf' 1 rfl
    have t2 : af.tmps.getD 2 undef = (.pointer (some ⟨(w.heap.size + 1), 0, none⟩)) := hf' 2 rfl
    have t3 : af.tmps.getD 3 undef = (.pointer (some ⟨(w.heap.size + 1 + 1), 0, none⟩)) := hf' 3 rfl
    obtain ⟨us, hus, haf⟩ := act_open 74 af hs' hd'
    rw [← hus] at t1 t2 t3
    have el : ((List.range 74).map us).toArray = #[us 0, us 1, us 2, us 3, us 4, us 5, us 6, us 7, us 8, us 9, us 10, us 11, us 12, us 13, us 14, us 15, us 16, us 17, us 18, us 19, us 20, us 21, us 22, us 23, us 24, us 25, us 26, us 27, us 28, us 29, us 30, us 31, us 32, us 33, us 34, us 35, us 36, us 37, us 38, us 39, us 40, us 41, us 42, us 43, us 44, us 45, us 46, us 47, us 48, us 49, us 50, us 51, us 52, us 53, us 54, us 55, us 56, us 57, us 58, us 59, us 60, us 61, us 62, us 63, us 64, us 65, us 66, us 67, us 68, us 69, us 70, us 71, us 72, us 73] := rfl
    rw [el] at haf
    subst haf
    rw [t1, t2, t3]
    obtain ⟨hos, hk4⟩ := hW.ended hL (by kernel_rfl) (#[.int .i64 1, .int .u64 (f : Int), .int .u64 (o : Int), .int .u64 (t : Int), .int .u64 (i : Int), .int .u64 (l : Int), .int .u64 0, .int .u64 0, .bool false, .slice none 0 0, .slice none 0 0, .slice none 0 0]) rfl (by simp only [List.size_toArray, List.length_cons, List.length_nil]; intro j hj; rcases j with _ | _ | _ | _ | _ | _ | _ | _ | _ | _ | _ | _ | j <;> first | rfl | omega)
    have K4 := Lib.hid hk4
    have K5 := Lib.hid (K2.out.onlyS hos (by omega))
    have HB2 := Lib.hid (below_two HB.out hos (fun k hk e => by omega) (by have := K3.out.lt; omega))
    clear hus t1 t2 t3 el hf' hs' hd' hW hos hk4 hL
    go_wp2_with (first | (refine wpList_load_by rfl 27 (.tmp 3) rfl _ _ rfl (K4.out.loads 27 _ Try.underlying27 rfl rfl) ?_) | (refine wpList_store_all rfl 27 (.tmp 2) (.tmp 73) rfl (w.heap.size + 1) (#[.int .i64 1, .int .u64 (f : Int), .int .u64 (o : Int), .int .u64 (t : Int), .int .u64 (i : Int), .int .u64 (l : Int), .int .u64 0, .int .u64 0, .bool false, .slice none 0 0, .slice none 0 0, .slice none 0 0]) rfl rfl 27 _ K5.out rfl rfl (by simp [Value.oneCell']) ?_; intro w9 hb9 hos9; (have HZ := Lib.hid hb9); (have HB9 := Lib.hid (below_two HB2.out hos9 (fun k hk e => by omega) (by have := K5.out.lt; omega))); clear hb9 hos9))
    exact bodyPost_ret (v := .agg (#[.int .i64 1, .int .u64 (f : Int), .int .u64 (o : Int), .int .u64 (t : Int), .int .u64 (i : Int), .int .u64 (l : Int), .int .u64 0, .int .u64 0, .bool false, .slice none 0 0, .slice none 0 0, .slice none 0 0])) (results_cell_row rfl _ _ (w.heap.size + 1) 27 _ (0, 0) _ rfl HZ.out Try.underlying27 rfl rfl) rfl ⟨rfl, HB9.out⟩

set_option maxHeartbeats 2000000 in
theorem bare_2 (f o t i l c s : Nat) (y : Bool) (a b d : Option Addr) (na nb nd ca cb cd : Nat) (w : World) :
    Calls Try.prog 25 #[.agg (#[.int .i64 2, .int .u64 (f : Int), .int .u64 (o : Int), .int .u64 (t : Int), .int .u64 (i : Int), .int .u64 (l : Int), .int .u64 (c : Int), .int .u64 (s : Int), .bool y, .slice a na ca, .slice b nb cb, .slice d nd cd])] w fun r w' => r = .returned (.agg (#[.int .i64 2, .int .u64 (f : Int), .int .u64 (o : Int), .int .u64 (t : Int), .int .u64 0, .int .u64 0, .int .u64 0, .int .u64 0, .bool y, .slice none 0 0, .slice none 0 0, .slice none 0 0])) ∧ Below w.heap.size w w' := by
  go_enter Try.func25, Try.ntmps25
  go_upto_region 2 with fail
  refine world_cut (fun W => Below w.heap.size w W ∧ Blk W w.heap.size 27 (#[.int .i64 2, .int .u64 (f : Int), .int .u64 (o : Int), .int .u64 (t : Int), .int .u64 (i : Int), .int .u64 (l : Int), .int .u64 (c : Int), .int .u64 (s : Int), .bool y, .slice a na ca, .slice b nb cb, .slice d nd cd]) ∧ Blk W (w.heap.size + 1) 27 (#[.int .i64 0, .int .u64 0, .int .u64 0, .int .u64 0, .int .u64 0, .int .u64 0, .int .u64 0, .int .u64 0, .bool false, .slice none 0 0, .slice none 0 0, .slice none 0 0]) ∧ Blk W (w.heap.size + 1 + 1) 27 (#[.int .i64 2, .int .u64 (f : Int), .int .u64 (o : Int), .int .u64 (t : Int), .int .u64 0, .int .u64 0, .int .u64 0, .int .u64 0, .bool false, .slice none 0 0, .slice none 0 0, .slice none 0 0])) ⟨((Below.refl w.heap.size w).alloc (Nat.le_refl _) _).alloc (by simp) _ |>.alloc (by simp; omega) _, ((Blk.new w _ _).alloc _).alloc _, (Blk.newAt _ _ _ _ _ (by simp) rfl).alloc _, Blk.newAt _ _ _ _ _ (by simp) rfl⟩ ?_
  rintro w1 ⟨hb1, k1, k2, k3⟩
  have HB := Lib.hid hb1
  have K1 := Lib.hid k1
  have K2 := Lib.hid k2
  have K3 := Lib.hid k3
  have c0 : w1.cell? ⟨w.heap.size, 0, none⟩ = some (.int .i64 2) := by rw [k1.cell]; rfl
  have c8 : w1.cell? ⟨w.heap.size, 8, none⟩ = some (.bool y) := by rw [k1.cell]; rfl
  clear hb1 k1 k2 k3
  go_wp2_with (first | (refine wpList_store_fld rfl 4 (.tmp 27) (.tmp 26) rfl (w.heap.size + 1 + 1) 8 (.bool y) rfl rfl 27 _ (#[.int .i64 2, .int .u64 (f : Int), .int .u64 (o : Int), .int .u64 (t : Int), .int .u64 0, .int .u64 0, .int .u64 0, .int .u64 0, .bool y, .slice none 0 0, .slice none 0 0, .slice none 0 0]) K3.out (by simp) rfl (by kernel_rfl) rfl ?_; intro w2 hb2 hos2; (have K4 := Lib.hid hb2); (have K5 := Lib.hid (K2.out.onlyS hos2 (by omega))); (have HB2 := Lib.hid (below_two HB.out hos2 (fun k hk e => by omega) (by have := K3.out.lt; omega))); clear hb2 hos2) | (refine wpList_load_by rfl 27 (.tmp 3) rfl _ _ rfl (K4.out.loads 27 _ Try.underlying27 rfl rfl) ?_) | (refine wpList_store_all rfl 27 (.tmp 2) (.tmp 73) rfl (w.heap.size + 1) (#[.int .i64 2, .int .u64 (f : Int), .int .u64 (o : Int), .int .u64 (t : Int), .int .u64 0, .int .u64 0, .int .u64 0, .int .u64 0, .bool y, .slice none 0 0, .slice none 0 0, .slice none 0 0]) rfl rfl 27 _ K5.out rfl rfl (by simp [Value.oneCell']) ?_; intro w9 hb9 hos9; (have HZ := Lib.hid hb9); (have HB9 := Lib.hid (below_two HB2.out hos9 (fun k hk e => by omega) (by have := K5.out.lt; omega))); clear hb9 hos9))
  exact bodyPost_ret (v := .agg (#[.int .i64 2, .int .u64 (f : Int), .int .u64 (o : Int), .int .u64 (t : Int), .int .u64 0, .int .u64 0, .int .u64 0, .int .u64 0, .bool y, .slice none 0 0, .slice none 0 0, .slice none 0 0])) (results_cell_row rfl _ _ (w.heap.size + 1) 27 _ (0, 0) _ rfl HZ.out Try.underlying27 rfl rfl) rfl ⟨rfl, HB9.out⟩

set_option maxHeartbeats 2000000 in
theorem bare_3 (f o t i l c s : Nat) (y : Bool) (a b d : Option Addr) (na nb nd ca cb cd : Nat) (w : World) :
    Calls Try.prog 25 #[.agg (#[.int .i64 3, .int .u64 (f : Int), .int .u64 (o : Int), .int .u64 (t : Int), .int .u64 (i : Int), .int .u64 (l : Int), .int .u64 (c : Int), .int .u64 (s : Int), .bool y, .slice a na ca, .slice b nb cb, .slice d nd cd])] w fun r w' => r = .returned (.agg (#[.int .i64 3, .int .u64 (f : Int), .int .u64 (o : Int), .int .u64 (t : Int), .int .u64 (i : Int), .int .u64 (l : Int), .int .u64 (c : Int), .int .u64 (s : Int), .bool false, .slice a na ca, .slice none 0 0, .slice none 0 0])) ∧ Below w.heap.size w w' := by
  go_enter Try.func25, Try.ntmps25
  go_upto_region 2 with fail
  refine world_cut (fun W => Below w.heap.size w W ∧ Blk W w.heap.size 27 (#[.int .i64 3, .int .u64 (f : Int), .int .u64 (o : Int), .int .u64 (t : Int), .int .u64 (i : Int), .int .u64 (l : Int), .int .u64 (c : Int), .int .u64 (s : Int), .bool y, .slice a na ca, .slice b nb cb, .slice d nd cd]) ∧ Blk W (w.heap.size + 1) 27 (#[.int .i64 0, .int .u64 0, .int .u64 0, .int .u64 0, .int .u64 0, .int .u64 0, .int .u64 0, .int .u64 0, .bool false, .slice none 0 0, .slice none 0 0, .slice none 0 0]) ∧ Blk W (w.heap.size + 1 + 1) 27 (#[.int .i64 3, .int .u64 (f : Int), .int .u64 (o : Int), .int .u64 (t : Int), .int .u64 0, .int .u64 0, .int .u64 0, .int .u64 0, .bool false, .slice none 0 0, .slice none 0 0, .slice none 0 0])) ⟨((Below.refl w.heap.size w).alloc (Nat.le_refl _) _).alloc (by simp) _ |>.alloc (by simp; omega) _, ((Blk.new w _ _).alloc _).alloc _, (Blk.newAt _ _ _ _ _ (by simp) rfl).alloc _, Blk.newAt _ _ _ _ _ (by simp) rfl⟩ ?_
  rintro w1 ⟨hb1, k1, k2, k3⟩
  have HB := Lib.hid hb1
  have K1 := Lib.hid k1
  have K2 := Lib.hid k2
  have K3 := Lib.hid k3
  have c0 : w1.cell? ⟨w.heap.size, 0, none⟩ = some (.int .i64 3) := by rw [k1.cell]; rfl
  clear hb1 k1 k2 k3
  go_upto_region 8 with fail
  refine region_by_l [(30, .is (.pointer (some ⟨w.heap.size, 4, none⟩))), (31, .is (.int .u64 (i : Int))), (32, .is (.pointer (some ⟨w.heap.size, 5, none⟩))), (33, .is (.int .u64 (l : Int))), (34, .is (.pointer (some ⟨w.heap.size, 6, none⟩))), (35, .is (.int .u64 (c : Int))), (36, .is (.pointer (some ⟨w.heap.size, 7, none⟩))), (37, .is (.int .u64 (s : Int))), (38, .is (.pointer (some ⟨w.heap.size, 9, none⟩))), (39, .is (.slice a na ca)), (40, .is (.pointer (some ⟨(w.heap.size + 1 + 1), 4, none⟩))), (41, .is (.pointer (some ⟨(w.heap.size + 1 + 1), 5, none⟩))), (42, .is (.pointer (some ⟨(w.heap.size + 1 + 1), 6, none⟩))), (43, .is (.pointer (some ⟨(w.heap.size + 1 + 1), 7, none⟩))), (44, .is (.pointer (some ⟨(w.heap.size + 1 + 1), 9, none⟩)))] [1, 2, 3] (Sts w1 (w.heap.size + 1 + 1) 27 (#[.int .i64 3, .int .u64 (f : Int), .int .u64 (o : Int), .int .u64 (t : Int), .int .u64 0, .int .u64 0, .int .u64 0, .int .u64 0, .bool false, .slice none 0 0, .slice none 0 0, .slice none 0 0]) [(11, 4, (.int .u64 (i : Int))), (13, 5, (.int .u64 (l : Int))), (15, 6, (.int .u64 (c : Int))), (17, 7, (.int .u64 (s : Int))), (19, 9, (.slice a na ca))]) (by kernel_rfl) (by kernel_rfl) (by kernel_rfl) (by kernel_rfl) (by kernel_rfl) (Sts.start ((OnlyS.refl _ w1).drew) (K3.out.keep ((Below.refl _ _).drew))) ?_ ?_
  · refine ⟨?c0, ?c1, ?c2, ?c3, ?c4, ?c5, ?c6, ?c7, ?c8, ?c9, ?c10, ?c11, ?c12, ?c13, ?c14, ?c15, ?c16, ?c17, ?c18, ?c19, trivial⟩
    case c0 => exact askedL_none (by kernel_rfl) (fun L => ask_field (guard_none rfl) _ (.tmp 1) 4 (.pointer (some ⟨w.heap.size, 0, none⟩)) (.pointer (some ⟨w.heap.size, 4, none⟩)) rfl rfl (by intro k hk; cases hk; rfl) (fun W => by kernel_rfl))
    case c1 => exact askedL_none (by kernel_rfl) (fun L => ask_load (guard_none rfl) _ (.tmp 30) (.pointer (some ⟨w.heap.size, 4, none⟩)) (.int .u64 (i : Int)) rfl rfl (by intro k hk; cases hk; rfl) (fun W hW => load_u64m W _ _ (by rw [(K1.out.onlyS hW.os (by omega)).cell]; rfl)))
    case c2 => exact askedL_none (by kernel_rfl) (fun L => ask_field (guard_none rfl) _ (.tmp 1) 5 (.pointer (some ⟨w.heap.size, 0, none⟩)) (.pointer (some ⟨w.heap.size, 5, none⟩)) rfl rfl (by intro k hk; cases hk; rfl) (fun W => by kernel_rfl))
    case c3 => exact askedL_none (by kernel_rfl) (fun L => ask_load (guard_none rfl) _ (.tmp 32) (.pointer (some ⟨w.heap.size, 5, none⟩)) (.int .u64 (l : Int)) rfl rfl (by intro k hk; cases hk; rfl) (fun W hW => load_u64m W _ _ (by rw [(K1.out.onlyS hW.os (by omega)).cell]; rfl)))
    case c4 => exact askedL_none (by kernel_rfl) (fun L => ask_field (guard_none rfl) _ (.tmp 1) 6 (.pointer (some ⟨w.heap.size, 0, none⟩)) (.pointer (some ⟨w.heap.size, 6, none⟩)) rfl rfl (by intro k hk; cases hk; rfl) (fun W => by kernel_rfl))
    case c5 => exact askedL_none (by kernel_rfl) (fun L => ask_load (guard_none rfl) _ (.tmp 34) (.pointer (some ⟨w.heap.size, 6, none⟩)) (.int .u64 (c : Int)) rfl rfl (by intro k hk; cases hk; rfl) (fun W hW => load_u64m W _ _ (by rw [(K1.out.onlyS hW.os (by omega)).cell]; rfl)))
    case c6 => exact askedL_none (by kernel_rfl) (fun L => ask_field (guard_none rfl) _ (.tmp 1) 7 (.pointer (some ⟨w.heap.size, 0, none⟩)) (.pointer (some ⟨w.heap.size, 7, none⟩)) rfl rfl (by intro k hk; cases hk; rfl) (fun W => by kernel_rfl))
    case c7 => exact askedL_none (by kernel_rfl) (fun L => ask_load (guard_none rfl) _ (.tmp 36) (.pointer (some ⟨w.heap.size, 7, none⟩)) (.int .u64 (s : Int)) rfl rfl (by intro k hk; cases hk; rfl) (fun W hW => load_u64m W _ _ (by rw [(K1.out.onlyS hW.os (by omega)).cell]; rfl)))
    case c8 => exact askedL_none (by kernel_rfl) (fun L => ask_field (guard_none rfl) _ (.tmp 1) 9 (.pointer (some ⟨w.heap.size, 0, none⟩)) (.pointer (some ⟨w.heap.size, 9, none⟩)) rfl rfl (by intro k hk; cases hk; rfl) (fun W => by kernel_rfl))
    case c9 => exact askedL_none (by kernel_rfl) (fun L => ask_load (guard_none rfl) _ (.tmp 38) (.pointer (some ⟨w.heap.size, 9, none⟩)) (.slice a na ca) rfl rfl (by intro k hk; cases hk; rfl) (fun W hW => load_esm W _ _ (by rw [(K1.out.onlyS hW.os (by omega)).cell]; rfl)))
    case c10 => exact askedL_none (by kernel_rfl) (fun L => ask_field (guard_none rfl) _ (.tmp 3) 4 (.pointer (some ⟨(w.heap.size + 1 + 1), 0, none⟩)) (.pointer (some ⟨(w.heap.size + 1 + 1), 4, none⟩)) rfl rfl (by intro k hk; cases hk; rfl) (fun W => by kernel_rfl))
    case c11 => exact askedL_store (guard_none rfl) _ (.tmp 40) (.tmp 31) 4 (.int .u64 (i : Int)) rfl rfl rfl rfl (facts_is (by simp [isFact])) (by decide) (by simp) rfl (by kernel_rfl) (by simp) (by simp) (by simp)
    case c12 => exact askedL_none (by kernel_rfl) (fun L => ask_field (guard_none rfl) _ (.tmp 3) 5 (.pointer (some ⟨(w.heap.size + 1 + 1), 0, none⟩)) (.pointer (some ⟨(w.heap.size + 1 + 1), 5, none⟩)) rfl rfl (by intro k hk; cases hk; rfl) (fun W => by kernel_rfl))
    case c13 => exact askedL_store (guard_none rfl) _ (.tmp 41) (.tmp 33) 5 (.int .u64 (l : Int)) rfl rfl rfl rfl (facts_is (by simp [isFact])) (by decide) (by simp) rfl (by kernel_rfl) (by simp) (by simp) (by simp)
    case c14 => exact askedL_none (by kernel_rfl) (fun L => ask_field (guard_none rfl) _ (.tmp 3) 6 (.pointer (some ⟨(w.heap.size + 1 + 1), 0, none⟩)) (.pointer (some ⟨(w.heap.size + 1 + 1), 6, none⟩)) rfl rfl (by intro k hk; cases hk; rfl) (fun W => by kernel_rfl))
    case c15 => exact askedL_store (guard_none rfl) _ (.tmp 42) (.tmp 35) 6 (.int .u64 (c : Int)) rfl rfl rfl rfl (facts_is (by simp [isFact])) (by decide) (by simp) rfl (by kernel_rfl) (by simp) (by simp) (by simp)
    case c16 => exact askedL_none (by kernel_rfl) (fun L => ask_field (guard_none rfl) _ (.tmp 3) 7 (.pointer (some ⟨(w.heap.size + 1 + 1), 0, none⟩)) (.pointer (some ⟨(w.heap.size + 1 + 1), 7, none⟩)) rfl rfl (by intro k hk; cases hk; rfl) (fun W => by kernel_rfl))
    case c17 => exact askedL_store (guard_none rfl) _ (.tmp 43) (.tmp 37) 7 (.int .u64 (s : Int)) rfl rfl rfl rfl (facts_is (by simp [isFact])) (by decide) (by simp) rfl (by kernel_rfl) (by simp) (by simp) (by simp)
    case c18 => exact askedL_none (by kernel_rfl) (fun L => ask_field (guard_none rfl) _ (.tmp 3) 9 (.pointer (some ⟨(w.heap.size + 1 + 1), 0, none⟩)) (.pointer (some ⟨(w.heap.size + 1 + 1), 9, none⟩)) rfl rfl (by intro k hk; cases hk; rfl) (fun W => by kernel_rfl))
    case c19 => exact askedL_store (guard_none rfl) _ (.tmp 44) (.tmp 39) 9 (.slice a na ca) rfl rfl rfl rfl (facts_is (by simp [isFact])) (by decide) (by simp) rfl (by kernel_rfl) (by simp) (by simp) (by simp)
  · intro L af W hL hW hd' hs' hf'
    have t1 : af.tmps.getD 1 undef = (.pointer (some ⟨w.heap.size, 0, none⟩)) := hf' 1 rfl
    have t2 : af.tmps.getD 2 undef = (.pointer (some ⟨(w.heap.size + 1), 0, none⟩)) := hf' 2 rfl
    have t3 : af.tmps.getD 3 undef = (.pointer (some ⟨(w.heap.size + 1 + 1), 0, none⟩)) := hf' 3 rfl
    obtain ⟨us, hus, haf⟩ := act_open 74 af hs' hd'
    rw [← hus] at t1 t2 t3
    have el : ((List.range 74).map us).toArray = #[us 0, us 1, us 2, us 3, us 4, us 5, us 6, us 7, us 8, us 9, us 10, us 11, us 12, us 13, us 14, us 15, us 16, us 17, us 18, us 19, us 20, us 21, us 22, us 23, us 24, us 25, us 26, us 27, us 28, us 29, us 30, us 31, us 32, us 33, us 34, us 35, us 36, us 37, us 38, us 39, us 40, us 41, us 42, us 43, us 44, us 45, us 46, us 47, us 48, us 49, us 50, us 51, us 52, us 53, us 54, us 55, us 56, us 57, us 58, us 59, us 60, us 61, us 62, us 63, us 64, us 65, us 66, us 67, us 68, us 69, us 70, us 71, us 72, us 73] := rfl
    rw [el] at haf
    subst haf
    rw [t1, t2, t3]
    obtain ⟨hos, hk4⟩ := hW.ended hL (by kernel_rfl) (#[.int .i64 3, .int .u64 (f : Int), .int .u64 (o : Int), .int .u64 (t : Int), .int .u64 (i : Int), .int .u64 (l : Int), .int .u64 (c : Int), .int .u64 (s : Int), .bool false, .slice a na ca, .slice none 0 0, .slice none 0 0]) rfl (by simp only [List.size_toArray, List.length_cons, List.length_nil]; intro j hj; rcases j with _ | _ | _ | _ | _ | _ | _ | _ | _ | _ | _ | _ | j <;> first | rfl | omega)
    have K4 := Lib.hid hk4
    have K5 := Lib.hid (K2.out.onlyS hos (by omega))
    have HB2 := Lib.hid (below_two HB.out hos (fun k hk e => by omega) (by have := K3.out.lt; omega))
    clear hus t1 t2 t3 el hf' hs' hd' hW hos hk4 hL
    go_wp2_with (first | (refine wpList_load_by rfl 27 (.tmp 3) rfl _ _ rfl (K4.out.loads 27 _ Try.underlying27 rfl rfl) ?_) | (refine wpList_store_all rfl 27 (.tmp 2) (.tmp 73) rfl (w.heap.size + 1) (#[.int .i64 3, .int .u64 (f : Int), .int .u64 (o : Int), .int .u64 (t : Int), .int .u64 (i : Int), .int .u64 (l : Int), .int .u64 (c : Int), .int .u64 (s : Int), .bool false, .slice a na ca, .slice none 0 0, .slice none 0 0]) rfl rfl 27 _ K5.out rfl rfl (by simp [Value.oneCell']) ?_; intro w9 hb9 hos9; (have HZ := Lib.hid hb9); (have HB9 := Lib.hid (below_two HB2.out hos9 (fun k hk e => by omega) (by have := K5.out.lt; omega))); clear hb9 hos9))
    exact bodyPost_ret (v := .agg (#[.int .i64 3, .int .u64 (f : Int), .int .u64 (o : Int), .int .u64 (t : Int), .int .u64 (i : Int), .int .u64 (l : Int), .int .u64 (c : Int), .int .u64 (s : Int), .bool false, .slice a na ca, .slice none 0 0, .slice none 0 0])) (results_cell_row rfl _ _ (w.heap.size + 1) 27 _ (0, 0) _ rfl HZ.out Try.underlying27 rfl rfl) rfl ⟨rfl, HB9.out⟩

set_option maxHeartbeats 2000000 in
theorem bare_4 (f o t i l c s : Nat) (y : Bool) (a b d : Option Addr) (na nb nd ca cb cd : Nat) (w : World) :
    Calls Try.prog 25 #[.agg (#[.int .i64 4, .int .u64 (f : Int), .int .u64 (o : Int), .int .u64 (t : Int), .int .u64 (i : Int), .int .u64 (l : Int), .int .u64 (c : Int), .int .u64 (s : Int), .bool y, .slice a na ca, .slice b nb cb, .slice d nd cd])] w fun r w' => r = .returned (.agg (#[.int .i64 4, .int .u64 (f : Int), .int .u64 (o : Int), .int .u64 (t : Int), .int .u64 (i : Int), .int .u64 0, .int .u64 0, .int .u64 (s : Int), .bool y, .slice none 0 0, .slice none 0 0, .slice none 0 0])) ∧ Below w.heap.size w w' := by
  go_enter Try.func25, Try.ntmps25
  go_upto_region 2 with fail
  refine world_cut (fun W => Below w.heap.size w W ∧ Blk W w.heap.size 27 (#[.int .i64 4, .int .u64 (f : Int), .int .u64 (o : Int), .int .u64 (t : Int), .int .u64 (i : Int), .int .u64 (l : Int), .int .u64 (c : Int), .int .u64 (s : Int), .bool y, .slice a na ca, .slice b nb cb, .slice d nd cd]) ∧ Blk W (w.heap.size + 1) 27 (#[.int .i64 0, .int .u64 0, .int .u64 0, .int .u64 0, .int .u64 0, .int .u64 0, .int .u64 0, .int .u64 0, .bool false, .slice none 0 0, .slice none 0 0, .slice none 0 0]) ∧ Blk W (w.heap.size + 1 + 1) 27 (#[.int .i64 4, .int .u64 (f : Int), .int .u64 (o : Int), .int .u64 (t : Int), .int .u64 0, .int .u64 0, .int .u64 0, .int .u64 0, .bool false, .slice none 0 0, .slice none 0 0, .slice none 0 0])) ⟨((Below.refl w.heap.size w).alloc (Nat.le_refl _) _).alloc (by simp) _ |>.alloc (by simp; omega) _, ((Blk.new w _ _).alloc _).alloc _, (Blk.newAt _ _ _ _ _ (by simp) rfl).alloc _, Blk.newAt _ _ _ _ _ (by simp) rfl⟩ ?_
  rintro w1 ⟨hb1, k1, k2, k3⟩
  have HB := Lib.hid hb1
  have K1 := Lib.hid k1
  have K2 := Lib.hid k2
  have K3 := Lib.hid k3
  have c0 : w1.cell? ⟨w.heap.size, 0, none⟩ = some (.int .i64 4) := by rw [k1.cell]; rfl
  clear hb1 k1 k2 k3
  go_upto_region 10 with fail
  refine region_by_l [(47, .is (.pointer (some ⟨w.heap.size, 8, none⟩))), (48, .is (.bool y)), (49, .is (.pointer (some ⟨w.heap.size, 4, none⟩))), (50, .is (.int .u64 (i : Int))), (51, .is (.pointer (some ⟨w.heap.size, 7, none⟩))), (52, .is (.int .u64 (s : Int))), (53, .is (.pointer (some ⟨(w.heap.size + 1 + 1), 8, none⟩))), (54, .is (.pointer (some ⟨(w.heap.size + 1 + 1), 4, none⟩))), (55, .is (.pointer (some ⟨(w.heap.size + 1 + 1), 7, none⟩)))] [1, 2, 3] (Sts w1 (w.heap.size + 1 + 1) 27 (#[.int .i64 4, .int .u64 (f : Int), .int .u64 (o : Int), .int .u64 (t : Int), .int .u64 0, .int .u64 0, .int .u64 0, .int .u64 0, .bool false, .slice none 0 0, .slice none 0 0, .slice none 0 0]) [(7, 8, (.bool y)), (9, 4, (.int .u64 (i : Int))), (11, 7, (.int .u64 (s : Int)))]) (by kernel_rfl) (by kernel_rfl) (by kernel_rfl) (by kernel_rfl) (by kernel_rfl) (Sts.start ((OnlyS.refl _ w1).drew) (K3.out.keep ((Below.refl _ _).drew))) ?_ ?_
  · refine ⟨?c0, ?c1, ?c2, ?c3, ?c4, ?c5, ?c6, ?c7, ?c8, ?c9, ?c10, ?c11, trivial⟩
    case c0 => exact askedL_none (by kernel_rfl) (fun L => ask_field (guard_none rfl) _ (.tmp 1) 8 (.pointer (some ⟨w.heap.size, 0, none⟩)) (.pointer (some ⟨w.heap.size, 8, none⟩)) rfl rfl (by intro k hk; cases hk; rfl) (fun W => by kernel_rfl))
    case c1 => exact askedL_none (by kernel_rfl) (fun L => ask_load (guard_none rfl) _ (.tmp 47) (.pointer (some ⟨w.heap.size, 8, none⟩)) (.bool y) rfl rfl (by intro k hk; cases hk; rfl) (fun W hW => load_boolm W _ _ (by rw [(K1.out.onlyS hW.os (by omega)).cell]; rfl)))
    case c2 => exact askedL_none (by kernel_rfl) (fun L => ask_field (guard_none rfl) _ (.tmp 1) 4 (.pointer (some ⟨w.heap.size, 0, none⟩)) (.pointer (some ⟨w.heap.size, 4, none⟩)) rfl rfl (by intro k hk; cases hk; rfl) (fun W => by kernel_rfl))
    case c3 => exact askedL_none (by kernel_rfl) (fun L => ask_load (guard_none rfl) _ (.tmp 49) (.pointer (some ⟨w.heap.size, 4, none⟩)) (.int .u64 (i : Int)) rfl rfl (by intro k hk; cases hk; rfl) (fun W hW => load_u64m W _ _ (by rw [(K1.out.onlyS hW.os (by omega)).cell]; rfl)))
    case c4 => exact askedL_none (by kernel_rfl) (fun L => ask_field (guard_none rfl) _ (.tmp 1) 7 (.pointer (some ⟨w.heap.size, 0, none⟩)) (.pointer (some ⟨w.heap.size, 7, none⟩)) rfl rfl (by intro k hk; cases hk; rfl) (fun W => by kernel_rfl))
    case c5 => exact askedL_none (by kernel_rfl) (fun L => ask_load (guard_none rfl) _ (.tmp 51) (.pointer (some ⟨w.heap.size, 7, none⟩)) (.int .u64 (s : Int)) rfl rfl (by intro k hk; cases hk; rfl) (fun W hW => load_u64m W _ _ (by rw [(K1.out.onlyS hW.os (by omega)).cell]; rfl)))
    case c6 => exact askedL_none (by kernel_rfl) (fun L => ask_field (guard_none rfl) _ (.tmp 3) 8 (.pointer (some ⟨(w.heap.size + 1 + 1), 0, none⟩)) (.pointer (some ⟨(w.heap.size + 1 + 1), 8, none⟩)) rfl rfl (by intro k hk; cases hk; rfl) (fun W => by kernel_rfl))
    case c7 => exact askedL_store (guard_none rfl) _ (.tmp 53) (.tmp 48) 8 (.bool y) rfl rfl rfl rfl (facts_is (by simp [isFact])) (by decide) (by simp) rfl (by kernel_rfl) (by simp) (by simp) (by simp)
    case c8 => exact askedL_none (by kernel_rfl) (fun L => ask_field (guard_none rfl) _ (.tmp 3) 4 (.pointer (some ⟨(w.heap.size + 1 + 1), 0, none⟩)) (.pointer (some ⟨(w.heap.size + 1 + 1), 4, none⟩)) rfl rfl (by intro k hk; cases hk; rfl) (fun W => by kernel_rfl))
    case c9 => exact askedL_store (guard_none rfl) _ (.tmp 54) (.tmp 50) 4 (.int .u64 (i : Int)) rfl rfl rfl rfl (facts_is (by simp [isFact])) (by decide) (by simp) rfl (by kernel_rfl) (by simp) (by simp) (by simp)
    case c10 => exact askedL_none (by kernel_rfl) (fun L => ask_field (guard_none rfl) _ (.tmp 3) 7 (.pointer (some ⟨(w.heap.size + 1 + 1), 0, none⟩)) (.pointer (some ⟨(w.heap.size + 1 + 1), 7, none⟩)) rfl rfl (by intro k hk; cases hk; rfl) (fun W => by kernel_rfl))
    case c11 => exact askedL_store (guard_none rfl) _ (.tmp 55) (.tmp 52) 7 (.int .u64 (s : Int)) rfl rfl rfl rfl (facts_is (by simp [isFact])) (by decide) (by simp) rfl (by kernel_rfl) (by simp) (by simp) (by simp)
  · intro L af W hL hW hd' hs' hf'
    have t1 : af.tmps.getD 1 undef = (.pointer (some ⟨w.heap.size, 0, none⟩)) := hf' 1 rfl
    have t2 : af.tmps.getD 2 undef = (.pointer (some ⟨(w.heap.size + 1), 0, none⟩)) := hf' 2 rfl
    have t3 : af.tmps.getD 3 undef = (.pointer (some ⟨(w.heap.size + 1 + 1), 0, none⟩)) := hf' 3 rfl
    obtain ⟨us, hus, haf⟩ := act_open 74 af hs' hd'
    rw [← hus] at t1 t2 t3
    have el : ((List.range 74).map us).toArray = #[us 0, us 1, us 2, us 3, us 4, us 5, us 6, us 7, us 8, us 9, us 10, us 11, us 12, us 13, us 14, us 15, us 16, us 17, us 18, us 19, us 20, us 21, us 22, us 23, us 24, us 25, us 26, us 27, us 28, us 29, us 30, us 31, us 32, us 33, us 34, us 35, us 36, us 37, us 38, us 39, us 40, us 41, us 42, us 43, us 44, us 45, us 46, us 47, us 48, us 49, us 50, us 51, us 52, us 53, us 54, us 55, us 56, us 57, us 58, us 59, us 60, us 61, us 62, us 63, us 64, us 65, us 66, us 67, us 68, us 69, us 70, us 71, us 72, us 73] := rfl
    rw [el] at haf
    subst haf
    rw [t1, t2, t3]
    obtain ⟨hos, hk4⟩ := hW.ended hL (by kernel_rfl) (#[.int .i64 4, .int .u64 (f : Int), .int .u64 (o : Int), .int .u64 (t : Int), .int .u64 (i : Int), .int .u64 0, .int .u64 0, .int .u64 (s : Int), .bool y, .slice none 0 0, .slice none 0 0, .slice none 0 0]) rfl (by simp only [List.size_toArray, List.length_cons, List.length_nil]; intro j hj; rcases j with _ | _ | _ | _ | _ | _ | _ | _ | _ | _ | _ | _ | j <;> first | rfl | omega)
    have K4 := Lib.hid hk4
    have K5 := Lib.hid (K2.out.onlyS hos (by omega))
    have HB2 := Lib.hid (below_two HB.out hos (fun k hk e => by omega) (by have := K3.out.lt; omega))
    clear hus t1 t2 t3 el hf' hs' hd' hW hos hk4 hL
    go_wp2_with (first | (refine wpList_load_by rfl 27 (.tmp 3) rfl _ _ rfl (K4.out.loads 27 _ Try.underlying27 rfl rfl) ?_) | (refine wpList_store_all rfl 27 (.tmp 2) (.tmp 73) rfl (w.heap.size + 1) (#[.int .i64 4, .int .u64 (f : Int), .int .u64 (o : Int), .int .u64 (t : Int), .int .u64 (i : Int), .int .u64 0, .int .u64 0, .int .u64 (s : Int), .bool y, .slice none 0 0, .slice none 0 0, .slice none 0 0]) rfl rfl 27 _ K5.out rfl rfl (by simp [Value.oneCell']) ?_; intro w9 hb9 hos9; (have HZ := Lib.hid hb9); (have HB9 := Lib.hid (below_two HB2.out hos9 (fun k hk e => by omega) (by have := K5.out.lt; omega))); clear hb9 hos9))
    exact bodyPost_ret (v := .agg (#[.int .i64 4, .int .u64 (f : Int), .int .u64 (o : Int), .int .u64 (t : Int), .int .u64 (i : Int), .int .u64 0, .int .u64 0, .int .u64 (s : Int), .bool y, .slice none 0 0, .slice none 0 0, .slice none 0 0])) (results_cell_row rfl _ _ (w.heap.size + 1) 27 _ (0, 0) _ rfl HZ.out Try.underlying27 rfl rfl) rfl ⟨rfl, HB9.out⟩

set_option maxHeartbeats 2000000 in
theorem bare_5 (f o t i l c s : Nat) (y : Bool) (a b d : Option Addr) (na nb nd ca cb cd : Nat) (w : World) :
    Calls Try.prog 25 #[.agg (#[.int .i64 5, .int .u64 (f : Int), .int .u64 (o : Int), .int .u64 (t : Int), .int .u64 (i : Int), .int .u64 (l : Int), .int .u64 (c : Int), .int .u64 (s : Int), .bool y, .slice a na ca, .slice b nb cb, .slice d nd cd])] w fun r w' => r = .returned (.agg (#[.int .i64 5, .int .u64 (f : Int), .int .u64 (o : Int), .int .u64 (t : Int), .int .u64 (i : Int), .int .u64 (l : Int), .int .u64 0, .int .u64 (s : Int), .bool false, .slice none 0 0, .slice b nb cb, .slice d nd cd])) ∧ Below w.heap.size w w' := by
  go_enter Try.func25, Try.ntmps25
  go_upto_region 2 with fail
  refine world_cut (fun W => Below w.heap.size w W ∧ Blk W w.heap.size 27 (#[.int .i64 5, .int .u64 (f : Int), .int .u64 (o : Int), .int .u64 (t : Int), .int .u64 (i : Int), .int .u64 (l : Int), .int .u64 (c : Int), .int .u64 (s : Int), .bool y, .slice a na ca, .slice b nb cb, .slice d nd cd]) ∧ Blk W (w.heap.size + 1) 27 (#[.int .i64 0, .int .u64 0, .int .u64 0, .int .u64 0, .int .u64 0, .int .u64 0, .int .u64 0, .int .u64 0, .bool false, .slice none 0 0, .slice none 0 0, .slice none 0 0]) ∧ Blk W (w.heap.size + 1 + 1) 27 (#[.int .i64 5, .int .u64 (f : Int), .int .u64 (o : Int), .int .u64 (t : Int), .int .u64 0, .int .u64 0, .int .u64 0, .int .u64 0, .bool false, .slice none 0 0, .slice none 0 0, .slice none 0 0])) ⟨((Below.refl w.heap.size w).alloc (Nat.le_refl _) _).alloc (by simp) _ |>.alloc (by simp; omega) _, ((Blk.new w _ _).alloc _).alloc _, (Blk.newAt _ _ _ _ _ (by simp) rfl).alloc _, Blk.newAt _ _ _ _ _ (by simp) rfl⟩ ?_
  rintro w1 ⟨hb1, k1, k2, k3⟩
  have HB := Lib.hid hb1
  have K1 := Lib.hid k1
  have K2 := Lib.hid k2
  have K3 := Lib.hid k3
  have c0 : w1.cell? ⟨w.heap.size, 0, none⟩ = some (.int .i64 5) := by rw [k1.cell]; rfl
  clear hb1 k1 k2 k3
  go_upto_region 12 with fail
  refine region_by_l [(58, .is (.pointer (some ⟨w.heap.size, 4, none⟩))), (59, .is (.int .u64 (i : Int))), (60, .is (.pointer (some ⟨w.heap.size, 5, none⟩))), (61, .is (.int .u64 (l : Int))), (62, .is (.pointer (some ⟨w.heap.size, 7, none⟩))), (63, .is (.int .u64 (s : Int))), (64, .is (.pointer (some ⟨w.heap.size, 10, none⟩))), (65, .is (.slice b nb cb)), (66, .is (.pointer (some ⟨w.heap.size, 11, none⟩))), (67, .is (.slice d nd cd)), (68, .is (.pointer (some ⟨(w.heap.size + 1 + 1), 4, none⟩))), (69, .is (.pointer (some ⟨(w.heap.size + 1 + 1), 5, none⟩))), (70, .is (.pointer (some ⟨(w.heap.size + 1 + 1), 7, none⟩))), (71, .is (.pointer (some ⟨(w.heap.size + 1 + 1), 10, none⟩))), (72, .is (.pointer (some ⟨(w.heap.size + 1 + 1), 11, none⟩)))] [1, 2, 3] (Sts w1 (w.heap.size + 1 + 1) 27 (#[.int .i64 5, .int .u64 (f : Int), .int .u64 (o : Int), .int .u64 (t : Int), .int .u64 0, .int .u64 0, .int .u64 0, .int .u64 0, .bool false, .slice none 0 0, .slice none 0 0, .slice none 0 0]) [(11, 4, (.int .u64 (i : Int))), (13, 5, (.int .u64 (l : Int))), (15, 7, (.int .u64 (s : Int))), (17, 10, (.slice b nb cb)), (19, 11, (.slice d nd cd))]) (by kernel_rfl) (by kernel_rfl) (by kernel_rfl) (by kernel_rfl) (by kernel_rfl) (Sts.start ((OnlyS.refl _ w1).drew) (K3.out.keep ((Below.refl _ _).drew))) ?_ ?_
  · refine ⟨?c0, ?c1, ?c2, ?c3, ?c4, ?c5, ?c6, ?c7, ?c8, ?c9, ?c10, ?c11, ?c12, ?c13, ?c14, ?c15, ?c16, ?c17, ?c18, ?c19, trivial⟩
    case c0 => exact askedL_none (by kernel_rfl) (fun L => ask_field (guard_none rfl) _ (.tmp 1) 4 (.pointer (some ⟨w.heap.size, 0, none⟩)) (.pointer (some ⟨w.heap.size, 4, none⟩)) rfl rfl (by intro k hk; cases hk; rfl) (fun W => by kernel_rfl))
    case c1 => exact askedL_none (by kernel_rfl) (fun L => ask_load (guard_none rfl) _ (.tmp 58) (.pointer (some ⟨w.heap.size, 4, none⟩)) (.int .u64 (i : Int)) rfl rfl (by intro k hk; cases hk; rfl) (fun W hW => load_u64m W _ _ (by rw [(K1.out.onlyS hW.os (by omega)).cell]; rfl)))
    case c2 => exact askedL_none (by kernel_rfl) (fun L => ask_field (guard_none rfl) _ (.tmp 1) 5 (.pointer (some ⟨w.heap.size, 0, none⟩)) (.pointer (some ⟨w.heap.size, 5, none⟩)) rfl rfl (by intro k hk; cases hk; rfl) (fun W => by kernel_rfl))
    case c3 => exact askedL_none (by kernel_rfl) (fun L => ask_load (guard_none rfl) _ (.tmp 60) (.pointer (some ⟨w.heap.size, 5, none⟩)) (.int .u64 (l : Int)) rfl rfl (by intro k hk; cases hk; rfl) (fun W hW => load_u64m W _ _ (by rw [(K1.out.onlyS hW.os (by omega)).cell]; rfl)))
    case c4 => exact askedL_none (by kernel_rfl) (fun L => ask_field (guard_none rfl) _ (.tmp 1) 7 (.pointer (some ⟨w.heap.size, 0, none⟩)) (.pointer (some ⟨w.heap.size, 7, none⟩)) rfl rfl (by intro k hk; cases hk; rfl) (fun W => by kernel_rfl))
    case c5 => exact askedL_none (by kernel_rfl) (fun L => ask_load (guard_none rfl) _ (.tmp 62) (.pointer (some ⟨w.heap.size, 7, none⟩)) (.int .u64 (s : Int)) rfl rfl (by intro k hk; cases hk; rfl) (fun W hW => load_u64m W _ _ (by rw [(K1.out.onlyS hW.os (by omega)).cell]; rfl)))
    case c6 => exact askedL_none (by kernel_rfl) (fun L => ask_field (guard_none rfl) _ (.tmp 1) 10 (.pointer (some ⟨w.heap.size, 0, none⟩)) (.pointer (some ⟨w.heap.size, 10, none⟩)) rfl rfl (by intro k hk; cases hk; rfl) (fun W => by kernel_rfl))
    case c7 => exact askedL_none (by kernel_rfl) (fun L => ask_load (guard_none rfl) _ (.tmp 64) (.pointer (some ⟨w.heap.size, 10, none⟩)) (.slice b nb cb) rfl rfl (by intro k hk; cases hk; rfl) (fun W hW => load_nsm W _ _ (by rw [(K1.out.onlyS hW.os (by omega)).cell]; rfl)))
    case c8 => exact askedL_none (by kernel_rfl) (fun L => ask_field (guard_none rfl) _ (.tmp 1) 11 (.pointer (some ⟨w.heap.size, 0, none⟩)) (.pointer (some ⟨w.heap.size, 11, none⟩)) rfl rfl (by intro k hk; cases hk; rfl) (fun W => by kernel_rfl))
    case c9 => exact askedL_none (by kernel_rfl) (fun L => ask_load (guard_none rfl) _ (.tmp 66) (.pointer (some ⟨w.heap.size, 11, none⟩)) (.slice d nd cd) rfl rfl (by intro k hk; cases hk; rfl) (fun W hW => load_bsm W _ _ (by rw [(K1.out.onlyS hW.os (by omega)).cell]; rfl)))
    case c10 => exact askedL_none (by kernel_rfl) (fun L => ask_field (guard_none rfl) _ (.tmp 3) 4 (.pointer (some ⟨(w.heap.size + 1 + 1), 0, none⟩)) (.pointer (some ⟨(w.heap.size + 1 + 1), 4, none⟩)) rfl rfl (by intro k hk; cases hk; rfl) (fun W => by kernel_rfl))
    case c11 => exact askedL_store (guard_none rfl) _ (.tmp 68) (.tmp 59) 4 (.int .u64 (i : Int)) rfl rfl rfl rfl (facts_is (by simp [isFact])) (by decide) (by simp) rfl (by kernel_rfl) (by simp) (by simp) (by simp)
    case c12 => exact askedL_none (by kernel_rfl) (fun L => ask_field (guard_none rfl) _ (.tmp 3) 5 (.pointer (some ⟨(w.heap.size + 1 + 1), 0, none⟩)) (.pointer (some ⟨(w.heap.size + 1 + 1), 5, none⟩)) rfl rfl (by intro k hk; cases hk; rfl) (fun W => by kernel_rfl))
    case c13 => exact askedL_store (guard_none rfl) _ (.tmp 69) (.tmp 61) 5 (.int .u64 (l : Int)) rfl rfl rfl rfl (facts_is (by simp [isFact])) (by decide) (by simp) rfl (by kernel_rfl) (by simp) (by simp) (by simp)
    case c14 => exact askedL_none (by kernel_rfl) (fun L => ask_field (guard_none rfl) _ (.tmp 3) 7 (.pointer (some ⟨(w.heap.size + 1 + 1), 0, none⟩)) (.pointer (some ⟨(w.heap.size + 1 + 1), 7, none⟩)) rfl rfl (by intro k hk; cases hk; rfl) (fun W => by kernel_rfl))
    case c15 => exact askedL_store (guard_none rfl) _ (.tmp 70) (.tmp 63) 7 (.int .u64 (s : Int)) rfl rfl rfl rfl (facts_is (by simp [isFact])) (by decide) (by simp) rfl (by kernel_rfl) (by simp) (by simp) (by simp)
    case c16 => exact askedL_none (by kernel_rfl) (fun L => ask_field (guard_none rfl) _ (.tmp 3) 10 (.pointer (some ⟨(w.heap.size + 1 + 1), 0, none⟩)) (.pointer (some ⟨(w.heap.size + 1 + 1), 10, none⟩)) rfl rfl (by intro k hk; cases hk; rfl) (fun W => by kernel_rfl))
    case c17 => exact askedL_store (guard_none rfl) _ (.tmp 71) (.tmp 65) 10 (.slice b nb cb) rfl rfl rfl rfl (facts_is (by simp [isFact])) (by decide) (by simp) rfl (by kernel_rfl) (by simp) (by simp) (by simp)
    case c18 => exact askedL_none (by kernel_rfl) (fun L => ask_field (guard_none rfl) _ (.tmp 3) 11 (.pointer (some ⟨(w.heap.size + 1 + 1), 0, none⟩)) (.pointer (some ⟨(w.heap.size + 1 + 1), 11, none⟩)) rfl rfl (by intro k hk; cases hk; rfl) (fun W => by kernel_rfl))
    case c19 => exact askedL_store (guard_none rfl) _ (.tmp 72) (.tmp 67) 11 (.slice d nd cd) rfl rfl rfl rfl (facts_is (by simp [isFact])) (by decide) (by simp) rfl (by kernel_rfl) (by simp) (by simp) (by simp)
  · intro L af W hL hW hd' hs' hf'
    have t1 : af.tmps.getD 1 undef = (.pointer (some ⟨w.heap.size, 0, none⟩)) := hf' 1 rfl
    have t2 : af.tmps.getD 2 undef = (.pointer (some ⟨(w.heap.size + 1), 0, none⟩)) := hf' 2 rfl
    have t3 : af.tmps.getD 3 undef = (.pointer (some ⟨(w.heap.size + 1 + 1), 0, none⟩)) := hf' 3 rfl
    obtain ⟨us, hus, haf⟩ := act_open 74 af hs' hd'
    rw [← hus] at t1 t2 t3
    have el : ((List.range 74).map us).toArray = #[us 0, us 1, us 2, us 3, us 4, us 5, us 6, us 7, us 8, us 9, us 10, us 11, us 12, us 13, us 14, us 15, us 16, us 17, us 18, us 19, us 20, us 21, us 22, us 23, us 24, us 25, us 26, us 27, us 28, us 29, us 30, us 31, us 32, us 33, us 34, us 35, us 36, us 37, us 38, us 39, us 40, us 41, us 42, us 43, us 44, us 45, us 46, us 47, us 48, us 49, us 50, us 51, us 52, us 53, us 54, us 55, us 56, us 57, us 58, us 59, us 60, us 61, us 62, us 63, us 64, us 65, us 66, us 67, us 68, us 69, us 70, us 71, us 72, us 73] := rfl
    rw [el] at haf
    subst haf
    rw [t1, t2, t3]
    obtain ⟨hos, hk4⟩ := hW.ended hL (by kernel_rfl) (#[.int .i64 5, .int .u64 (f : Int), .int .u64 (o : Int), .int .u64 (t : Int), .int .u64 (i : Int), .int .u64 (l : Int), .int .u64 0, .int .u64 (s : Int), .bool false, .slice none 0 0, .slice b nb cb, .slice d nd cd]) rfl (by simp only [List.size_toArray, List.length_cons, List.length_nil]; intro j hj; rcases j with _ | _ | _ | _ | _ | _ | _ | _ | _ | _ | _ | _ | j <;> first | rfl | omega)
    have K4 := Lib.hid hk4
    have K5 := Lib.hid (K2.out.onlyS hos (by omega))
    have HB2 := Lib.hid (below_two HB.out hos (fun k hk e => by omega) (by have := K3.out.lt; omega))
    clear hus t1 t2 t3 el hf' hs' hd' hW hos hk4 hL
    go_wp2_with (first | (refine wpList_load_by rfl 27 (.tmp 3) rfl _ _ rfl (K4.out.loads 27 _ Try.underlying27 rfl rfl) ?_) | (refine wpList_store_all rfl 27 (.tmp 2) (.tmp 73) rfl (w.heap.size + 1) (#[.int .i64 5, .int .u64 (f : Int), .int .u64 (o : Int), .int .u64 (t : Int), .int .u64 (i : Int), .int .u64 (l : Int), .int .u64 0, .int .u64 (s : Int), .bool false, .slice none 0 0, .slice b nb cb, .slice d nd cd]) rfl rfl 27 _ K5.out rfl rfl (by simp [Value.oneCell']) ?_; intro w9 hb9 hos9; (have HZ := Lib.hid hb9); (have HB9 := Lib.hid (below_two HB2.out hos9 (fun k hk e => by omega) (by have := K5.out.lt; omega))); clear hb9 hos9))
    exact bodyPost_ret (v := .agg (#[.int .i64 5, .int .u64 (f : Int), .int .u64 (o : Int), .int .u64 (t : Int), .int .u64 (i : Int), .int .u64 (l : Int), .int .u64 0, .int .u64 (s : Int), .bool false, .slice none 0 0, .slice b nb cb, .slice d nd cd])) (results_cell_row rfl _ _ (w.heap.size + 1) 27 _ (0, 0) _ rfl HZ.out Try.underlying27 rfl rfl) rfl ⟨rfl, HB9.out⟩

theorem bare_ok {m : Mg} (h : m.Ok) : (MsgMath.bareM m).Ok := by
  unfold MsgMath.bareM
  repeat' split
  all_goals
    refine ⟨h.kl, h.kh, h.f, h.o, h.t, ?_, ?_, ?_, ?_, ?_, ?_⟩ <;> first | exact h.i | exact h.l | exact h.c | exact h.s | exact h.e | exact h.m | (simp; done) | decide

theorem els_nil (w : World) : Els w (.slice none 0 0) [] := .inl ⟨rfl, rfl⟩
theorem hasAll_nil (w : World) : HasAll w [] := fun _ hu => absurd hu List.not_mem_nil

/-- bare: a message with the fields of its kind alone. -/
theorem refBare_any (m : Mg) (ve vm vg : Value) (us : List EE) (w : World) (hm : MHas w m ve vm vg us) :
    Calls Try.prog 25 #[.agg (mgC m ve vm vg)] w fun r w' => ∃ ve' vm' vg' us', r = .returned (.agg (mgC (MsgMath.bareM m) ve' vm' vg')) ∧ MHas w' (MsgMath.bareM m) ve' vm' vg' us' ∧ Below w.heap.size w w' := by
  obtain ⟨a, ca, rfl⟩ := hm.els.form
  obtain ⟨b, cb, rfl⟩ := hm.ms.shape
  obtain ⟨d, cd, rfl⟩ := hm.gs.shape
  have hok := bare_ok hm.ok
  obtain ⟨k, f, o, t, i, l, c, s, y, e, ms, g⟩ := m
  by_cases h1 : k = 1
  · subst h1
    have e1 : MsgMath.bareM ⟨1, f, o, t, i, l, c, s, y, e, ms, g⟩ = ⟨1, f, o, t, i, l, 0, 0, false, [], [], []⟩ := rfl
    rw [e1] at hok ⊢
    refine (bare_1 f o t i l c s y a b d us.length ms.length g.length ca cb cd w).mono ?_
    rintro r w' ⟨rfl, hb⟩
    exact ⟨_, _, _, [], rfl, ⟨hok, els_nil _, hasAll_nil _, rfl, .inl ⟨rfl, rfl⟩, .inl ⟨rfl, rfl⟩, by simp, by simp, by simp⟩, hb⟩
  by_cases h2 : k = 2
  · subst h2
    have e1 : MsgMath.bareM ⟨2, f, o, t, i, l, c, s, y, e, ms, g⟩ = ⟨2, f, o, t, 0, 0, 0, 0, y, [], [], []⟩ := rfl
    rw [e1] at hok ⊢
    refine (bare_2 f o t i l c s y a b d us.length ms.length g.length ca cb cd w).mono ?_
    rintro r w' ⟨rfl, hb⟩
    exact ⟨_, _, _, [], rfl, ⟨hok, els_nil _, hasAll_nil _, rfl, .inl ⟨rfl, rfl⟩, .inl ⟨rfl, rfl⟩, by simp, by simp, by simp⟩, hb⟩
  by_cases h3 : k = 3
  · subst h3
    have e1 : MsgMath.bareM ⟨3, f, o, t, i, l, c, s, y, e, ms, g⟩ = ⟨3, f, o, t, i, l, c, s, false, e, [], []⟩ := rfl
    rw [e1] at hok ⊢
    refine (bare_3 f o t i l c s y a b d us.length ms.length g.length ca cb cd w).mono ?_
    rintro r w' ⟨rfl, hb⟩
    exact ⟨_, _, _, us, rfl, ⟨hok, hm.els.below (Nat.le_refl _) hb, hm.all.below (Nat.le_refl _) hb, hm.ents, .inl ⟨rfl, rfl⟩, .inl ⟨rfl, rfl⟩, hm.ul, by simp, by simp⟩, hb⟩
  by_cases h4 : k = 4
  · subst h4
    have e1 : MsgMath.bareM ⟨4, f, o, t, i, l, c, s, y, e, ms, g⟩ = ⟨4, f, o, t, i, 0, 0, s, y, [], [], []⟩ := rfl
    rw [e1] at hok ⊢
    refine (bare_4 f o t i l c s y a b d us.length ms.length g.length ca cb cd w).mono ?_
    rintro r w' ⟨rfl, hb⟩
    exact ⟨_, _, _, [], rfl, ⟨hok, els_nil _, hasAll_nil _, rfl, .inl ⟨rfl, rfl⟩, .inl ⟨rfl, rfl⟩, by simp, by simp, by simp⟩, hb⟩
  by_cases h5 : k = 5
  · subst h5
    have e1 : MsgMath.bareM ⟨5, f, o, t, i, l, c, s, y, e, ms, g⟩ = ⟨5, f, o, t, i, l, 0, s, false, [], ms, g⟩ := rfl
    rw [e1] at hok ⊢
    refine (bare_5 f o t i l c s y a b d us.length ms.length g.length ca cb cd w).mono ?_
    rintro r w' ⟨rfl, hb⟩
    exact ⟨_, _, _, [], rfl, ⟨hok, els_nil _, hasAll_nil _, rfl, hm.ms.below (Nat.le_refl _) hb, hm.gs.below (Nat.le_refl _) hb, by simp, hm.ml, hm.gl⟩, hb⟩
  have e1 : MsgMath.bareM ⟨k, f, o, t, i, l, c, s, y, e, ms, g⟩ = ⟨k, f, o, t, 0, 0, 0, 0, false, [], [], []⟩ := by
    unfold MsgMath.bareM
    rw [if_neg h1, if_neg h2, if_neg h3, if_neg h4, if_neg h5]
  rw [e1] at hok ⊢
  refine (bare_0 k (beq_false_of_ne h1) (beq_false_of_ne h2) (beq_false_of_ne h3) (beq_false_of_ne h4) (beq_false_of_ne h5) f o t i l c s y a b d us.length ms.length g.length ca cb cd w).mono ?_
  rintro r w' ⟨rfl, hb⟩
  exact ⟨_, _, _, [], rfl, ⟨hok, els_nil _, hasAll_nil _, rfl, .inl ⟨rfl, rfl⟩, .inl ⟨rfl, rfl⟩, by simp, by simp, by simp⟩, hb⟩
end Go.Proofs.Ytidapdooiibfnaa

