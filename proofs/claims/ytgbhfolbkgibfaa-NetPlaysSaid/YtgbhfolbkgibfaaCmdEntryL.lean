/- An entry, read by the program. -/
import Derived.Test.YtgbhfolbkgibfaaLAK
import Derived.Test.YtgbhfolbkgibfaaCmdPutL
namespace Go.Proofs.Ytgbhfolbkgibfaa
set_option maxRecDepth 20000
open Go.RowKit BinMath CmdMath
variable {G : Nat}

/-- One cell of a block, written. -/
theorem run_store_fld {P : Program} {W : World} {g : Nat} {t : TypeId} {cs : Array Value} (hb : Blk W g t cs) (ty : TypeId) (i : Nat) (hi : i < cs.size) (v : Value) (h1 : v.oneCell' = true) (hs : (P.info? ty).map (·.size) = some 1) :
    (Instr.storeAt ty (.pointer (some ⟨g, i, none⟩)) v).run P W = .ok () (W.setCell ⟨g, i, none⟩ v) := by
  have hc : v.cells = #[v] := by cases v <;> first | rfl | cases h1
  have hcell : W.cell? ⟨g, i, none⟩ = some cs[i] := by rw [hb.cell]; simp [hi]
  have hst := run_store P W ⟨g, i, none⟩ v .plain h1
  rw [hcell, hb.frozen] at hst
  cases hq : P.info? ty with
  | none => simp [hq] at hs
  | some q =>
    have hsz : q.size = 1 := by simpa [hq] using hs
    have ha : (⟨g, i, none⟩ : Addr).add 0 = ⟨g, i, none⟩ := by simp [Addr.add]
    simp [Instr.storeAt, Instr.sureAddr, storeVar, Sem.run_bind, sizeOf, typeInfo, hq, hsz, hc, storeCells, ha]
    rw [show (Go.store ⟨g, i, none⟩ v).run P W = .ok () (W.setCell ⟨g, i, none⟩ v) from hst]

theorem setRow_onlyS (W : World) (g : Nat) (cs : Array Value) : OnlyS (fun b => b = g) W (W.setRow g cs) :=
  ⟨rfl, rfl, rfl, by simp [World.setRow], fun k _ hk => setRow_other W g k cs hk⟩

/-- A field, written in a walk. -/
theorem wpList_store_fld {P : Program} {w : World} {ops : Array Oper} {rest : List Oper} {o : Oper} {a : Act} {Q : Exit → Act → World → Prop} (hgd : o.guard = none) (ty : TypeId) (x y : Operand) (ho : o.op = .store ty x y) (g i : Nat) (v : Value)
    (hx : a.eval x = .pointer (some ⟨g, i, none⟩)) (hy : a.eval y = v) (t : TypeId) (cs cs' : Array Value) (hb : Blk w g t cs) (hi : i < cs.size) (h1 : v.oneCell' = true) (hs : (P.info? ty).map (·.size) = some 1) (hcs : cs.setIfInBounds i v = cs')
    (h : ∀ w', Blk w' g t cs' → OnlyS (fun b => b = g) w w' → wpList P ops Q rest (a.put o.dst undef) w') : wpList P ops Q (o :: rest) a w := by
  subst hcs
  exact wpList_store_by hgd ty x y ho _ _ hx hy _ (run_store_fld hb ty i hi v h1 hs) (h _ (hb.set i v) ((OnlyS.refl (fun b => b = g) w).setCell (p := ⟨g, i, none⟩) (fun _ => rfl) v))

/-- A whole block, written in a walk. -/
theorem wpList_store_all {P : Program} {w : World} {ops : Array Oper} {rest : List Oper} {o : Oper} {a : Act} {Q : Exit → Act → World → Prop} (hgd : o.guard = none) (ty : TypeId) (x y : Operand) (ho : o.op = .store ty x y) (g : Nat) (cs : Array Value)
    (hx : a.eval x = .pointer (some ⟨g, 0, none⟩)) (hy : a.eval y = .agg cs) (t : TypeId) (old : Array Value) (hb : Blk w g t old) (hi : (P.info? ty).map (·.size) = some cs.size) (hold : old.size = cs.size) (h1 : cs.all (·.oneCell') = true)
    (h : ∀ w', Blk w' g t cs → OnlyS (fun b => b = g) w w' → wpList P ops Q rest (a.put o.dst undef) w') : wpList P ops Q (o :: rest) a w :=
  wpList_store_by hgd ty x y ho _ _ hx hy _ (hb.stores ty cs hi hold h1) (h _ (hb.row cs) (setRow_onlyS w g cs))

/-- The cells of the entry that is nothing. -/
def zeroC : Array Value := #[.int .u64 0, .int .i64 0, .int .u64 0, .int .u64 0, .slice none 0 0, .slice none 0 0]

theorem Blk.onlyR {w w' : World} {R g : Nat} {t : TypeId} {cs : Array Value} (h : Blk w g t cs) (ho : Only R w w') (hne : g ≠ R) : Blk w' g t cs := by
  have hl := h.lt
  unfold Blk at *
  rw [ho.block g hl hne]
  exact h

theorem Blk.onlyS {w w' : World} {g : Nat} {t : TypeId} {cs : Array Value} {S : Nat → Prop} (h : Blk w g t cs) (ho : OnlyS S w w') (hne : ¬ S g) : Blk w' g t cs := by
  have hl := h.lt
  unfold Blk at *
  rw [ho.block g hl hne]
  exact h

theorem Only.wrote {R g : Nat} {w w' w'' : World} (h : Only R w w') (ho : OnlyS (fun b => b = g) w' w'') (hg : w.heap.size ≤ g) : Only R w w'' :=
  ⟨ho.os.trans h.os, ho.tape.trans h.tape, ho.output.trans h.output, Nat.le_trans h.size ho.size, fun k hk hr => by
    rw [ho.block k (Nat.lt_of_lt_of_le hk h.size) (fun e => by omega)]
    exact h.block k hk hr⟩

/-- An entry of the call's own, from block B on. -/
structure Mine (w : World) (B : Nat) (e : Ent) (a : Option Addr) (ca : Nat) (b : Option Addr) (cb : Nat) : Prop where
  ok : e.Ok
  d : Row w B (.slice a e.d.length ca) e.d
  m : NRow w B (.slice b e.m.length cb) e.m
  dl : e.d.length ≤ 64
  ml : e.m.length ≤ 7

theorem Mine.has {w : World} {B : Nat} {e : Ent} {a b : Option Addr} {ca cb : Nat} (h : Mine w B e a ca b cb) : Has w e a ca b cb :=
  ⟨h.ok, h.d.bys, h.m.nums, by have := h.dl; omega, by have := h.ml; omega⟩

theorem row_to {w w' : World} {B : Nat} {v : Value} {l : List UInt8} (h : Row w B v l) (hk : ∀ k, v.ownBlock = some k → w'.heap[k]? = w.heap[k]?) : Row w' B v l := ownsRow_to h hk

theorem row_onlyR {w w' : World} {B R : Nat} {v : Value} {l : List UInt8} (h : Row w B v l) (hR : R < B) (ho : Only R w w') : Row w' B v l :=
  row_to h fun k hk => by
    have := World.ownsRow.lt h k hk
    exact ho.block k this.2 (by omega)

/-- In the midst of the reading: the reader, the block of the result and that of the entry. -/
structure In (w : World) (R G g2 g3 : Nat) (l r : List UInt8) (c3 : Array Value) (W : World) : Prop where
  at_ : At W R G l r
  only : Only R w W
  b2 : Blk W g2 62 zeroC
  b3 : Blk W g3 62 c3
  rw_ : R < w.heap.size
  gw : G ≤ w.heap.size
  h2 : w.heap.size ≤ g2
  h3 : w.heap.size ≤ g3
  ne : g2 ≠ g3

theorem In.call {w W W' : World} {R g2 g3 : Nat} {l r r' : List UInt8} {c3 : Array Value} (h : In w R G g2 g3 l r c3 W) (ha : At W' R G l r') (ho : Only R W W') : In w R G g2 g3 l r' c3 W' :=
  have h1 := h.rw_; have h2 := h.h2; have h3 := h.h3
  ⟨ha, h.only.trans ho, h.b2.onlyR ho (by omega), h.b3.onlyR ho (by omega), h.rw_, h.gw, h.h2, h.h3, h.ne⟩

theorem In.set {w W W' : World} {R g2 g3 : Nat} {l r : List UInt8} {c3 c3' : Array Value} (h : In w R G g2 g3 l r c3 W) (hb : Blk W' g3 62 c3') (ho : OnlyS (fun b => b = g3) W W') : In w R G g2 g3 l r c3' W' :=
  have h0 := h.rw_; have h1 := h.gw; have h2 := h.h2; have h3 := h.h3
  ⟨h.at_.only ho (fun b hb e => by omega) (by intro e; omega), h.only.wrote ho h.h3, h.b2.onlyS ho h.ne, hb, h.rw_, h.gw, h.h2, h.h3, h.ne⟩

/-- How the reading of an entry ends. -/
def EntEnd (G R : Nat) (l r : List UInt8) (w : World) (e : Ending) (w' : World) : Prop :=
  Only R w w' ∧ match gEnt r with
    | .ok (x, q) => ∃ a ca b cb, e = .returned (.agg (entC x a ca b cb)) ∧ Mine w' w.heap.size x a ca b cb ∧ At w' R G l q
    | .error c => e = .panicked (lostC c)

theorem conv_byte (k : Nat) (hk : k < 256) (W : World) : (convert 5 3 (.int .u8 (k : Int))).run Try.prog W = .ok (.int .i64 (k : Int)) W := by
  have hp : Try.prog.intKind 3 = .i64 := by kernel_rfl
  have h := run_convert_int (P := Try.prog) W 5 3 .u8 (k : Int) (by kernel_rfl) (by rw [hp]; exact Try.underlying3)
  rw [hp] at h
  have e : IntKind.i64.wrap (k : Int) = (k : Int) := by rw [IntKind.wrap_i64]; omega
  rw [h, e]

theorem row_wrote {w w' : World} {B g : Nat} {v : Value} {l : List UInt8} {cs : Array Value} (h : Row w B v l) (hb : Blk w g 62 cs) (ho : OnlyS (fun b => b = g) w w') : Row w' B v l :=
  row_to h fun k hk => ho.block k (World.ownsRow.lt h k hk).2 fun e => ownsRow_apart h hb (by decide) (e ▸ hk)

theorem nrow_wrote {w w' : World} {B g : Nat} {v : Value} {l : List Nat} {cs : Array Value} (h : NRow w B v l) (hb : Blk w g 62 cs) (ho : OnlyS (fun b => b = g) w w') : NRow w' B v l :=
  h.to fun k hk => ho.block k (World.ownsRow.lt h k hk).2 fun e => ownsRow_apart h hb (by decide) (e ▸ hk)

theorem entC_size (e : Ent) (a b : Option Addr) (ca cb : Nat) : (Try.prog.info? 62).map (·.size) = some (entC e a ca b cb).size := by
  have h : (Try.prog.info? 62).map (·.size) = some 6 := by kernel_rfl
  exact h

/-- The end: the entry is laid into the result. -/
theorem In.done {w W W' : World} {R g2 g3 : Nat} {l r : List UInt8} {c3 : Array Value} (h : In w R G g2 g3 l r c3 W) (ho : OnlyS (fun b => b = g2) W W') : At W' R G l r ∧ Only R w W' :=
  have h0 := h.rw_; have h1 := h.gw; have h2 := h.h2
  ⟨h.at_.only ho (fun b hb e => by omega) (by intro e; omega), h.only.wrote ho h.h2⟩

theorem nrow_low {w : World} {B B' : Nat} {v : Value} {l : List Nat} (h : NRow w B v l) (hB : B' ≤ B) : NRow w B' v l := by
  obtain ⟨h1, h2⟩ := h
  refine ⟨h1, h2.elim .inl fun ⟨g, cap, cur, hv, hb, r⟩ => .inr ⟨g, cap, cur, hv, Nat.le_trans hB hb, r⟩⟩

set_option maxHeartbeats 8000000 in
set_option maxRecDepth 100000 in
theorem entry_any {R : Nat} {l r : List UInt8} {w : World} (h : At w R G l r) :
    Calls Try.prog 105 #[.pointer (some ⟨R, 0, none⟩)] w (EntEnd G R l r w) := by
  have hlt := h.lt
  have b1 : Below w.heap.size w (w.alloc (.cells zeroC 62)) := (Below.refl _ _).alloc (Nat.le_refl _) _
  have h1 := h.below b1
  have E1 := Lib.hid (Blk.new w 62 zeroC)
  have HB1 := Lib.hid b1
  clear h b1
  cases hn : gNum r with
  | error c =>
    have hc := gNum_err hn
    have HE := Lib.hid (show gEnt r = .error c by simp only [gEnt, hn])
    have HN := Lib.hid (readNum_bad h1 hn)
    have HT := Lib.hid (fun w => takeNum_bad 0 c w (by omega))
    clear h1 hn hc
    go_enter Try.func105, Try.ntmps105
    go_wp2_with fail
    refine HN.out.mono ?_
    rintro e w2 ⟨rfl, ho⟩
    have HO := Lib.hid ((Only.of_below HB1.out).trans ho)
    clear ho
    go_wp2_with fail
    refine (HT.out _).mono ?_
    rintro e w3 ⟨rfl, rfl⟩
    refine ⟨rfl, HO.out, ?_⟩
    rw [HE.out]
  | ok p =>
    obtain ⟨t, q⟩ := p
    have ht64 := (gNum_back hn).1
    have HN := Lib.hid (readNum_ok h1 hn)
    have hct := fun W => isTerm_any t W ht64
    have hge : ∀ x, (1 ≤ t ∧ t ≤ 4611686018427387904) → gKind t q = x → gEnt r = x := fun x h e => by simp only [gEnt, hn, if_pos h, e]
    have hgb : ¬ (1 ≤ t ∧ t ≤ 4611686018427387904) → gEnt r = .error 3 := fun h => by simp only [gEnt, hn, if_neg h]
    have HGe := Lib.hid hge
    have HGb := Lib.hid hgb
    clear h1 hn hge hgb
    by_cases htt : 1 ≤ t ∧ t ≤ 4611686018427387904
    · rw [decide_eq_true htt] at hct
      have HC := Lib.hid hct
      have HG := Lib.hid (fun x e => HGe.out x htt e)
      clear hct htt
      cases hb : gByte q with
      | error c =>
        have hc : c = 2 := by cases q <;> simp [gByte] at hb; exact hb.symm
        subst hc
        have HE := Lib.hid (HG.out (.error 2) (by simp only [gKind, hb]))
        have HBy := Lib.hid (fun W (h : At W R G l q) => readByte_bad h hb)
        have HT := Lib.hid (fun w => takeByte_bad 0 2 w (by decide))
        clear hb
        go_enter Try.func105, Try.ntmps105
        go_wp2_with fail
        refine HN.out.mono ?_
        rintro e w2 ⟨rfl, ha, ho⟩
        have HA := Lib.hid ha
        have HO := Lib.hid ((Only.of_below HB1.out).trans ho)
        have E2 := Lib.hid (E1.out.onlyR ho (by omega))
        have hsz : w.heap.size ≤ w2.heap.size := HO.out.size
        clear ha ho
        go_wp2_with fail
        refine (takeNum_ok t _).mono ?_
        rintro e w2 ⟨rfl, rfl⟩
        go_wp2_with (refine wpList_store_all rfl 62 (.tmp 3) (.tmp 9) rfl w2.heap.size #[.int .u64 (t : Int), .int .i64 0, .int .u64 0, .int .u64 0, .slice none 0 0, .slice none 0 0] rfl rfl 62 zeroC (Blk.new w2 62 zeroC) (by kernel_rfl) rfl (by simp [Value.oneCell']) ?_; intro w3 hb hos; (have HI := Lib.hid (show In w R G w.heap.size w2.heap.size l q #[.int .u64 (t : Int), .int .i64 0, .int .u64 0, .int .u64 0, .slice none 0 0, .slice none 0 0] w3 from ⟨(HA.out.below ((Below.refl _ _).alloc (Nat.le_refl _) _)).only hos (fun b hb e => absurd (e ▸ hb) (by have := HA.out.lt; omega)) (fun e => absurd e (by have := HA.out.lt; omega)), (HO.out.alloc _).wrote hos hsz, ((E2.out).alloc _).onlyS hos (fun e => absurd e (by have := E2.out.lt; omega)), hb, hlt.1, hlt.2, Nat.le_refl _, hsz, fun e => absurd e (by have := E2.out.lt; omega)⟩)); (have k0 : w3.cell? ⟨w2.heap.size, 0, none⟩ = some (.int .u64 (t : Int)) := by rw [hb.cell]; rfl); clear hb hos)
        refine (HC.out _).mono ?_
        rintro e w4 ⟨rfl, rfl⟩
        go_wp2_with fail
        refine (ask_yes _).mono ?_
        rintro e w4 ⟨rfl, rfl⟩
        clear k0
        obtain ⟨g3, hg3⟩ : ∃ g3, g3 = w2.heap.size := ⟨_, rfl⟩
        rw [← hg3] at HI ⊢
        clear hg3 HA HO E2
        go_wp2_with fail
        refine (HBy.out _ HI.out.at_).mono ?_
        rintro e w5 ⟨rfl, ho⟩
        have HO5 := Lib.hid (HI.out.only.trans ho)
        clear ho
        go_wp2_with fail
        refine (HT.out _).mono ?_
        rintro e w6 ⟨rfl, rfl⟩
        refine ⟨rfl, HO5.out, ?_⟩
        rw [HE.out]
      | ok p =>
        obtain ⟨k, q2⟩ := p
        have hk := (gByte_back hb).1
        have HBy := Lib.hid (fun W (h : At W R G l q) => readByte_ok h hb)
        have hcv := conv_byte k hk
        have hgk : ∀ x, (if k = 1 then .ok (⟨t, 1, 0, 0, [], []⟩, q2) else if k = 2 then gPut t q2 else if k = 3 then gConf t q2 else .error 3) = x → gEnt r = x := fun x e => HG.out x (by simp only [gKind, hb, e])
        have HGk := Lib.hid hgk
        clear hb hgk
        by_cases k1' : k = 1
        · subst k1'
          have HE := Lib.hid (HGk.out _ (if_pos rfl))
          clear HG HGk
          go_enter Try.func105, Try.ntmps105
          go_wp2_with fail
          refine HN.out.mono ?_
          rintro e w2 ⟨rfl, ha, ho⟩
          have HA := Lib.hid ha
          have HO := Lib.hid ((Only.of_below HB1.out).trans ho)
          have E2 := Lib.hid (E1.out.onlyR ho (by omega))
          have hsz : w.heap.size ≤ w2.heap.size := HO.out.size
          clear ha ho
          go_wp2_with fail
          refine (takeNum_ok t _).mono ?_
          rintro e w2 ⟨rfl, rfl⟩
          go_wp2_with (refine wpList_store_all rfl 62 (.tmp 3) (.tmp 9) rfl w2.heap.size #[.int .u64 (t : Int), .int .i64 0, .int .u64 0, .int .u64 0, .slice none 0 0, .slice none 0 0] rfl rfl 62 zeroC (Blk.new w2 62 zeroC) (by kernel_rfl) rfl (by simp [Value.oneCell']) ?_; intro w3 hb hos; (have HI := Lib.hid (show In w R G w.heap.size w2.heap.size l q #[.int .u64 (t : Int), .int .i64 0, .int .u64 0, .int .u64 0, .slice none 0 0, .slice none 0 0] w3 from ⟨(HA.out.below ((Below.refl _ _).alloc (Nat.le_refl _) _)).only hos (fun b hb e => absurd (e ▸ hb) (by have := HA.out.lt; omega)) (fun e => absurd e (by have := HA.out.lt; omega)), (HO.out.alloc _).wrote hos hsz, ((E2.out).alloc _).onlyS hos (fun e => absurd e (by have := E2.out.lt; omega)), hb, hlt.1, hlt.2, Nat.le_refl _, hsz, fun e => absurd e (by have := E2.out.lt; omega)⟩)); (have k0 : w3.cell? ⟨w2.heap.size, 0, none⟩ = some (.int .u64 (t : Int)) := by rw [hb.cell]; rfl); clear hb hos)
          refine (HC.out _).mono ?_
          rintro e w4 ⟨rfl, rfl⟩
          go_wp2_with fail
          refine (ask_yes _).mono ?_
          rintro e w4 ⟨rfl, rfl⟩
          clear k0
          obtain ⟨g3, hg3⟩ : ∃ g3, g3 = w2.heap.size := ⟨_, rfl⟩
          rw [← hg3] at HI ⊢
          clear hg3 HA HO E2
          go_wp2_with fail
          refine (HBy.out _ HI.out.at_).mono ?_
          rintro e w5 ⟨rfl, ha, ho⟩
          have HI5 := Lib.hid (HI.out.call ha ho)
          clear ha ho
          go_wp2_with fail
          refine (takeByte_ok _ _).mono ?_
          rintro e w6 ⟨rfl, rfl⟩
          go_wp2_with (first | (refine wpList_store_fld rfl 3 (.tmp 20) (.tmp 19) rfl g3 1 (.int .i64 (((1 : Nat) : Int))) rfl rfl 62 _ #[.int .u64 (t : Int), .int .i64 (((1 : Nat) : Int)), .int .u64 0, .int .u64 0, .slice none 0 0, .slice none 0 0] HI5.out.b3 (by simp) rfl (by kernel_rfl) rfl ?_; intro w7 hb hos; (have HI7 := Lib.hid (HI5.out.set hb hos)); (have k1 : w7.cell? ⟨g3, 1, none⟩ = some (.int .i64 (((1 : Nat) : Int))) := by rw [hb.cell]; rfl); clear hb hos) | (refine wpList_load_by rfl 62 (.tmp 3) rfl _ _ rfl (HI7.out.b3.loads 62 _ Try.underlying62 rfl (by kernel_rfl)) ?_) | (refine wpList_store_all rfl 62 (.tmp 2) (.tmp 51) rfl w.heap.size #[.int .u64 (t : Int), .int .i64 (((1 : Nat) : Int)), .int .u64 0, .int .u64 0, .slice none 0 0, .slice none 0 0] rfl rfl 62 zeroC HI7.out.b2 (by kernel_rfl) rfl (by simp [Value.oneCell']) ?_; intro wz hbz hoz; (have HBz := Lib.hid hbz); (have HDz := Lib.hid (HI7.out.done hoz)); clear hbz hoz))
          have HF := Lib.hid (show EntEnd G R l r w (.returned (.agg #[.int .u64 (t : Int), .int .i64 (((1 : Nat) : Int)), .int .u64 0, .int .u64 0, .slice none 0 0, .slice none 0 0])) wz from ⟨HDz.out.2, by rw [HE.out]; exact ⟨none, 0, none, 0, rfl, ⟨⟨ht64, by simp, by simp, by simp, by simp, by simp⟩, World.ownsRow_nil _ _ _ _, World.ownsRow_nil _ _ _ _, by simp, by simp⟩, HDz.out.1⟩⟩)
          exact bodyPost_ret (v := .agg #[.int .u64 (t : Int), .int .i64 (((1 : Nat) : Int)), .int .u64 0, .int .u64 0, .slice none 0 0, .slice none 0 0]) (results_cell_row rfl _ _ w.heap.size 62 #[.int .u64 (t : Int), .int .i64 (((1 : Nat) : Int)), .int .u64 0, .int .u64 0, .slice none 0 0, .slice none 0 0] (0, 0) _ rfl HBz.out Try.underlying62 rfl (by kernel_rfl)) rfl HF.out
        · by_cases k2' : k = 2
          · subst k2'
            have hgp : ∀ x, gPut t q2 = x → gEnt r = x := fun x e => HGk.out x (by rw [if_neg (by decide), if_pos rfl, e])
            have HGp := Lib.hid hgp
            clear HG HGk hgp k1'
            cases hc : gNum q2 with
            | error x =>
              have hx := gNum_err hc
              have HE := Lib.hid (HGp.out (.error x) (by simp only [gPut, hc]))
              have HNc := Lib.hid (fun W (h : At W R G l q2) => readNum_bad h hc)
              have HT := Lib.hid (fun w => takeNum_bad 0 x w (by omega))
              clear hc hx
              go_enter Try.func105, Try.ntmps105
              go_wp2_with fail
              refine HN.out.mono ?_
              rintro e w2 ⟨rfl, ha, ho⟩
              have HA := Lib.hid ha
              have HO := Lib.hid ((Only.of_below HB1.out).trans ho)
              have E2 := Lib.hid (E1.out.onlyR ho (by omega))
              have hsz : w.heap.size ≤ w2.heap.size := HO.out.size
              clear ha ho
              go_wp2_with fail
              refine (takeNum_ok t _).mono ?_
              rintro e w2 ⟨rfl, rfl⟩
              go_wp2_with (refine wpList_store_all rfl 62 (.tmp 3) (.tmp 9) rfl w2.heap.size #[.int .u64 (t : Int), .int .i64 0, .int .u64 0, .int .u64 0, .slice none 0 0, .slice none 0 0] rfl rfl 62 zeroC (Blk.new w2 62 zeroC) (by kernel_rfl) rfl (by simp [Value.oneCell']) ?_; intro w3 hb hos; (have HI := Lib.hid (show In w R G w.heap.size w2.heap.size l q #[.int .u64 (t : Int), .int .i64 0, .int .u64 0, .int .u64 0, .slice none 0 0, .slice none 0 0] w3 from ⟨(HA.out.below ((Below.refl _ _).alloc (Nat.le_refl _) _)).only hos (fun b hb e => absurd (e ▸ hb) (by have := HA.out.lt; omega)) (fun e => absurd e (by have := HA.out.lt; omega)), (HO.out.alloc _).wrote hos hsz, ((E2.out).alloc _).onlyS hos (fun e => absurd e (by have := E2.out.lt; omega)), hb, hlt.1, hlt.2, Nat.le_refl _, hsz, fun e => absurd e (by have := E2.out.lt; omega)⟩)); (have k0 : w3.cell? ⟨w2.heap.size, 0, none⟩ = some (.int .u64 (t : Int)) := by rw [hb.cell]; rfl); clear hb hos)
              refine (HC.out _).mono ?_
              rintro e w4 ⟨rfl, rfl⟩
              go_wp2_with fail
              refine (ask_yes _).mono ?_
              rintro e w4 ⟨rfl, rfl⟩
              clear k0
              obtain ⟨g3, hg3⟩ : ∃ g3, g3 = w2.heap.size := ⟨_, rfl⟩
              rw [← hg3] at HI ⊢
              clear hg3 HA HO E2
              go_wp2_with fail
              refine (HBy.out _ HI.out.at_).mono ?_
              rintro e w5 ⟨rfl, ha, ho⟩
              have HI5 := Lib.hid (HI.out.call ha ho)
              clear ha ho
              go_wp2_with fail
              refine (takeByte_ok _ _).mono ?_
              rintro e w6 ⟨rfl, rfl⟩
              go_wp2_with (first | (refine wpList_store_fld rfl 3 (.tmp 20) (.tmp 19) rfl g3 1 (.int .i64 (((2 : Nat) : Int))) rfl rfl 62 _ #[.int .u64 (t : Int), .int .i64 (((2 : Nat) : Int)), .int .u64 0, .int .u64 0, .slice none 0 0, .slice none 0 0] HI5.out.b3 (by simp) rfl (by kernel_rfl) rfl ?_; intro w7 hb hos; (have HI7 := Lib.hid (HI5.out.set hb hos)); (have k1 : w7.cell? ⟨g3, 1, none⟩ = some (.int .i64 (((2 : Nat) : Int))) := by rw [hb.cell]; rfl); clear hb hos))
              refine (HNc.out _ HI7.out.at_).mono ?_
              rintro e wf ⟨rfl, ho⟩
              have HOf := Lib.hid (HI7.out.only.trans ho)
              clear ho
              go_wp2_with fail
              refine (HT.out _).mono ?_
              rintro e wg ⟨rfl, rfl⟩
              refine ⟨rfl, HOf.out, ?_⟩
              rw [HE.out]
            | ok p =>
              obtain ⟨c, q3⟩ := p
              have hc64 := (gNum_back hc).1
              have HNc := Lib.hid (fun W (h : At W R G l q2) => readNum_ok h hc)
              cases hs : gNum q3 with
              | error x =>
                have hx := gNum_err hs
                have HE := Lib.hid (HGp.out (.error x) (by simp only [gPut, hc, hs]))
                have HNs := Lib.hid (fun W (h : At W R G l q3) => readNum_bad h hs)
                have HT := Lib.hid (fun w => takeNum_bad 0 x w (by omega))
                clear hc hs hx
                go_enter Try.func105, Try.ntmps105
                go_wp2_with fail
                refine HN.out.mono ?_
                rintro e w2 ⟨rfl, ha, ho⟩
                have HA := Lib.hid ha
                have HO := Lib.hid ((Only.of_below HB1.out).trans ho)
                have E2 := Lib.hid (E1.out.onlyR ho (by omega))
                have hsz : w.heap.size ≤ w2.heap.size := HO.out.size
                clear ha ho
                go_wp2_with fail
                refine (takeNum_ok t _).mono ?_
                rintro e w2 ⟨rfl, rfl⟩
                go_wp2_with (refine wpList_store_all rfl 62 (.tmp 3) (.tmp 9) rfl w2.heap.size #[.int .u64 (t : Int), .int .i64 0, .int .u64 0, .int .u64 0, .slice none 0 0, .slice none 0 0] rfl rfl 62 zeroC (Blk.new w2 62 zeroC) (by kernel_rfl) rfl (by simp [Value.oneCell']) ?_; intro w3 hb hos; (have HI := Lib.hid (show In w R G w.heap.size w2.heap.size l q #[.int .u64 (t : Int), .int .i64 0, .int .u64 0, .int .u64 0, .slice none 0 0, .slice none 0 0] w3 from ⟨(HA.out.below ((Below.refl _ _).alloc (Nat.le_refl _) _)).only hos (fun b hb e => absurd (e ▸ hb) (by have := HA.out.lt; omega)) (fun e => absurd e (by have := HA.out.lt; omega)), (HO.out.alloc _).wrote hos hsz, ((E2.out).alloc _).onlyS hos (fun e => absurd e (by have := E2.out.lt; omega)), hb, hlt.1, hlt.2, Nat.le_refl _, hsz, fun e => absurd e (by have := E2.out.lt; omega)⟩)); (have k0 : w3.cell? ⟨w2.heap.size, 0, none⟩ = some (.int .u64 (t : Int)) := by rw [hb.cell]; rfl); clear hb hos)
                refine (HC.out _).mono ?_
                rintro e w4 ⟨rfl, rfl⟩
                go_wp2_with fail
                refine (ask_yes _).mono ?_
                rintro e w4 ⟨rfl, rfl⟩
                clear k0
                obtain ⟨g3, hg3⟩ : ∃ g3, g3 = w2.heap.size := ⟨_, rfl⟩
                rw [← hg3] at HI ⊢
                clear hg3 HA HO E2
                go_wp2_with fail
                refine (HBy.out _ HI.out.at_).mono ?_
                rintro e w5 ⟨rfl, ha, ho⟩
                have HI5 := Lib.hid (HI.out.call ha ho)
                clear ha ho
                go_wp2_with fail
                refine (takeByte_ok _ _).mono ?_
                rintro e w6 ⟨rfl, rfl⟩
                go_wp2_with (first | (refine wpList_store_fld rfl 3 (.tmp 20) (.tmp 19) rfl g3 1 (.int .i64 (((2 : Nat) : Int))) rfl rfl 62 _ #[.int .u64 (t : Int), .int .i64 (((2 : Nat) : Int)), .int .u64 0, .int .u64 0, .slice none 0 0, .slice none 0 0] HI5.out.b3 (by simp) rfl (by kernel_rfl) rfl ?_; intro w7 hb hos; (have HI7 := Lib.hid (HI5.out.set hb hos)); (have k1 : w7.cell? ⟨g3, 1, none⟩ = some (.int .i64 (((2 : Nat) : Int))) := by rw [hb.cell]; rfl); clear hb hos))
                refine (HNc.out _ HI7.out.at_).mono ?_
                rintro e w8 ⟨rfl, ha, ho⟩
                have HI8 := Lib.hid (HI7.out.call ha ho)
                clear ha ho k1
                go_wp2_with fail
                refine (takeNum_ok _ _).mono ?_
                rintro e w9 ⟨rfl, rfl⟩
                go_wp2_with (refine wpList_store_fld rfl 31 (.tmp 33) (.tmp 32) rfl g3 2 (.int .u64 (c : Int)) rfl rfl 62 _ #[.int .u64 (t : Int), .int .i64 (((2 : Nat) : Int)), .int .u64 (c : Int), .int .u64 0, .slice none 0 0, .slice none 0 0] HI8.out.b3 (by simp) rfl (by kernel_rfl) rfl ?_; intro w10 hb hos; (have HI10 := Lib.hid (HI8.out.set hb hos)); clear hb hos)
                refine (HNs.out _ HI10.out.at_).mono ?_
                rintro e wf ⟨rfl, ho⟩
                have HOf := Lib.hid (HI10.out.only.trans ho)
                clear ho
                go_wp2_with fail
                refine (HT.out _).mono ?_
                rintro e wg ⟨rfl, rfl⟩
                refine ⟨rfl, HOf.out, ?_⟩
                rw [HE.out]
              | ok p =>
                obtain ⟨s, q4⟩ := p
                have hs64 := (gNum_back hs).1
                have HNs := Lib.hid (fun W (h : At W R G l q3) => readNum_ok h hs)
                cases hd : gText 64 q4 with
                | error x =>
                  have hx := gText_err hd
                  have HE := Lib.hid (HGp.out (.error x) (by simp only [gPut, hc, hs, hd]))
                  have HNd := Lib.hid (fun W (h : At W R G l q4) => readRaw_bad h hd)
                  have HT := Lib.hid (fun v w => takeRaw_bad v x w (by omega))
                  clear hc hs hd hx
                  go_enter Try.func105, Try.ntmps105
                  go_wp2_with fail
                  refine HN.out.mono ?_
                  rintro e w2 ⟨rfl, ha, ho⟩
                  have HA := Lib.hid ha
                  have HO := Lib.hid ((Only.of_below HB1.out).trans ho)
                  have E2 := Lib.hid (E1.out.onlyR ho (by omega))
                  have hsz : w.heap.size ≤ w2.heap.size := HO.out.size
                  clear ha ho
                  go_wp2_with fail
                  refine (takeNum_ok t _).mono ?_
                  rintro e w2 ⟨rfl, rfl⟩
                  go_wp2_with (refine wpList_store_all rfl 62 (.tmp 3) (.tmp 9) rfl w2.heap.size #[.int .u64 (t : Int), .int .i64 0, .int .u64 0, .int .u64 0, .slice none 0 0, .slice none 0 0] rfl rfl 62 zeroC (Blk.new w2 62 zeroC) (by kernel_rfl) rfl (by simp [Value.oneCell']) ?_; intro w3 hb hos; (have HI := Lib.hid (show In w R G w.heap.size w2.heap.size l q #[.int .u64 (t : Int), .int .i64 0, .int .u64 0, .int .u64 0, .slice none 0 0, .slice none 0 0] w3 from ⟨(HA.out.below ((Below.refl _ _).alloc (Nat.le_refl _) _)).only hos (fun b hb e => absurd (e ▸ hb) (by have := HA.out.lt; omega)) (fun e => absurd e (by have := HA.out.lt; omega)), (HO.out.alloc _).wrote hos hsz, ((E2.out).alloc _).onlyS hos (fun e => absurd e (by have := E2.out.lt; omega)), hb, hlt.1, hlt.2, Nat.le_refl _, hsz, fun e => absurd e (by have := E2.out.lt; omega)⟩)); (have k0 : w3.cell? ⟨w2.heap.size, 0, none⟩ = some (.int .u64 (t : Int)) := by rw [hb.cell]; rfl); clear hb hos)
                  refine (HC.out _).mono ?_
                  rintro e w4 ⟨rfl, rfl⟩
                  go_wp2_with fail
                  refine (ask_yes _).mono ?_
                  rintro e w4 ⟨rfl, rfl⟩
                  clear k0
                  obtain ⟨g3, hg3⟩ : ∃ g3, g3 = w2.heap.size := ⟨_, rfl⟩
                  rw [← hg3] at HI ⊢
                  clear hg3 HA HO E2
                  go_wp2_with fail
                  refine (HBy.out _ HI.out.at_).mono ?_
                  rintro e w5 ⟨rfl, ha, ho⟩
                  have HI5 := Lib.hid (HI.out.call ha ho)
                  clear ha ho
                  go_wp2_with fail
                  refine (takeByte_ok _ _).mono ?_
                  rintro e w6 ⟨rfl, rfl⟩
                  go_wp2_with (first | (refine wpList_store_fld rfl 3 (.tmp 20) (.tmp 19) rfl g3 1 (.int .i64 (((2 : Nat) : Int))) rfl rfl 62 _ #[.int .u64 (t : Int), .int .i64 (((2 : Nat) : Int)), .int .u64 0, .int .u64 0, .slice none 0 0, .slice none 0 0] HI5.out.b3 (by simp) rfl (by kernel_rfl) rfl ?_; intro w7 hb hos; (have HI7 := Lib.hid (HI5.out.set hb hos)); (have k1 : w7.cell? ⟨g3, 1, none⟩ = some (.int .i64 (((2 : Nat) : Int))) := by rw [hb.cell]; rfl); clear hb hos))
                  refine (HNc.out _ HI7.out.at_).mono ?_
                  rintro e w8 ⟨rfl, ha, ho⟩
                  have HI8 := Lib.hid (HI7.out.call ha ho)
                  clear ha ho k1
                  go_wp2_with fail
                  refine (takeNum_ok _ _).mono ?_
                  rintro e w9 ⟨rfl, rfl⟩
                  go_wp2_with (refine wpList_store_fld rfl 31 (.tmp 33) (.tmp 32) rfl g3 2 (.int .u64 (c : Int)) rfl rfl 62 _ #[.int .u64 (t : Int), .int .i64 (((2 : Nat) : Int)), .int .u64 (c : Int), .int .u64 0, .slice none 0 0, .slice none 0 0] HI8.out.b3 (by simp) rfl (by kernel_rfl) rfl ?_; intro w10 hb hos; (have HI10 := Lib.hid (HI8.out.set hb hos)); clear hb hos)
                  refine (HNs.out _ HI10.out.at_).mono ?_
                  rintro e w11 ⟨rfl, ha, ho⟩
                  have HI11 := Lib.hid (HI10.out.call ha ho)
                  clear ha ho
                  go_wp2_with fail
                  refine (takeNum_ok _ _).mono ?_
                  rintro e w12 ⟨rfl, rfl⟩
                  go_wp2_with (refine wpList_store_fld rfl 31 (.tmp 39) (.tmp 38) rfl g3 3 (.int .u64 (s : Int)) rfl rfl 62 _ #[.int .u64 (t : Int), .int .i64 (((2 : Nat) : Int)), .int .u64 (c : Int), .int .u64 (s : Int), .slice none 0 0, .slice none 0 0] HI11.out.b3 (by simp) rfl (by kernel_rfl) rfl ?_; intro w13 hb hos; (have HI13 := Lib.hid (HI11.out.set hb hos)); clear hb hos)
                  refine (HNd.out _ HI13.out.at_).mono ?_
                  rintro e wf ⟨v, rfl, -, ho⟩
                  have HOf := Lib.hid (HI13.out.only.trans ho)
                  clear ho
                  go_wp2_with fail
                  refine (HT.out _ _).mono ?_
                  rintro e wg ⟨rfl, rfl⟩
                  refine ⟨rfl, HOf.out, ?_⟩
                  rw [HE.out]
                | ok p =>
                  obtain ⟨d, q5⟩ := p
                  have hd64 := (gText_back hd).1
                  have HE := Lib.hid (HGp.out (.ok (⟨t, 2, c, s, d, []⟩, q5)) (by simp only [gPut, hc, hs, hd]))
                  have HNd := Lib.hid (fun W (h : At W R G l q4) => readRaw_ok h hd)
                  clear hc hs hd
                  go_enter Try.func105, Try.ntmps105
                  go_wp2_with fail
                  refine HN.out.mono ?_
                  rintro e w2 ⟨rfl, ha, ho⟩
                  have HA := Lib.hid ha
                  have HO := Lib.hid ((Only.of_below HB1.out).trans ho)
                  have E2 := Lib.hid (E1.out.onlyR ho (by omega))
                  have hsz : w.heap.size ≤ w2.heap.size := HO.out.size
                  clear ha ho
                  go_wp2_with fail
                  refine (takeNum_ok t _).mono ?_
                  rintro e w2 ⟨rfl, rfl⟩
                  go_wp2_with (refine wpList_store_all rfl 62 (.tmp 3) (.tmp 9) rfl w2.heap.size #[.int .u64 (t : Int), .int .i64 0, .int .u64 0, .int .u64 0, .slice none 0 0, .slice none 0 0] rfl rfl 62 zeroC (Blk.new w2 62 zeroC) (by kernel_rfl) rfl (by simp [Value.oneCell']) ?_; intro w3 hb hos; (have HI := Lib.hid (show In w R G w.heap.size w2.heap.size l q #[.int .u64 (t : Int), .int .i64 0, .int .u64 0, .int .u64 0, .slice none 0 0, .slice none 0 0] w3 from ⟨(HA.out.below ((Below.refl _ _).alloc (Nat.le_refl _) _)).only hos (fun b hb e => absurd (e ▸ hb) (by have := HA.out.lt; omega)) (fun e => absurd e (by have := HA.out.lt; omega)), (HO.out.alloc _).wrote hos hsz, ((E2.out).alloc _).onlyS hos (fun e => absurd e (by have := E2.out.lt; omega)), hb, hlt.1, hlt.2, Nat.le_refl _, hsz, fun e => absurd e (by have := E2.out.lt; omega)⟩)); (have k0 : w3.cell? ⟨w2.heap.size, 0, none⟩ = some (.int .u64 (t : Int)) := by rw [hb.cell]; rfl); clear hb hos)
                  refine (HC.out _).mono ?_
                  rintro e w4 ⟨rfl, rfl⟩
                  go_wp2_with fail
                  refine (ask_yes _).mono ?_
                  rintro e w4 ⟨rfl, rfl⟩
                  clear k0
                  obtain ⟨g3, hg3⟩ : ∃ g3, g3 = w2.heap.size := ⟨_, rfl⟩
                  rw [← hg3] at HI ⊢
                  clear hg3 HA HO E2
                  go_wp2_with fail
                  refine (HBy.out _ HI.out.at_).mono ?_
                  rintro e w5 ⟨rfl, ha, ho⟩
                  have HI5 := Lib.hid (HI.out.call ha ho)
                  clear ha ho
                  go_wp2_with fail
                  refine (takeByte_ok _ _).mono ?_
                  rintro e w6 ⟨rfl, rfl⟩
                  go_wp2_with (first | (refine wpList_store_fld rfl 3 (.tmp 20) (.tmp 19) rfl g3 1 (.int .i64 (((2 : Nat) : Int))) rfl rfl 62 _ #[.int .u64 (t : Int), .int .i64 (((2 : Nat) : Int)), .int .u64 0, .int .u64 0, .slice none 0 0, .slice none 0 0] HI5.out.b3 (by simp) rfl (by kernel_rfl) rfl ?_; intro w7 hb hos; (have HI7 := Lib.hid (HI5.out.set hb hos)); (have k1 : w7.cell? ⟨g3, 1, none⟩ = some (.int .i64 (((2 : Nat) : Int))) := by rw [hb.cell]; rfl); clear hb hos))
                  refine (HNc.out _ HI7.out.at_).mono ?_
                  rintro e w8 ⟨rfl, ha, ho⟩
                  have HI8 := Lib.hid (HI7.out.call ha ho)
                  clear ha ho k1
                  go_wp2_with fail
                  refine (takeNum_ok _ _).mono ?_
                  rintro e w9 ⟨rfl, rfl⟩
                  go_wp2_with (refine wpList_store_fld rfl 31 (.tmp 33) (.tmp 32) rfl g3 2 (.int .u64 (c : Int)) rfl rfl 62 _ #[.int .u64 (t : Int), .int .i64 (((2 : Nat) : Int)), .int .u64 (c : Int), .int .u64 0, .slice none 0 0, .slice none 0 0] HI8.out.b3 (by simp) rfl (by kernel_rfl) rfl ?_; intro w10 hb hos; (have HI10 := Lib.hid (HI8.out.set hb hos)); clear hb hos)
                  refine (HNs.out _ HI10.out.at_).mono ?_
                  rintro e w11 ⟨rfl, ha, ho⟩
                  have HI11 := Lib.hid (HI10.out.call ha ho)
                  clear ha ho
                  go_wp2_with fail
                  refine (takeNum_ok _ _).mono ?_
                  rintro e w12 ⟨rfl, rfl⟩
                  go_wp2_with (refine wpList_store_fld rfl 31 (.tmp 39) (.tmp 38) rfl g3 3 (.int .u64 (s : Int)) rfl rfl 62 _ #[.int .u64 (t : Int), .int .i64 (((2 : Nat) : Int)), .int .u64 (c : Int), .int .u64 (s : Int), .slice none 0 0, .slice none 0 0] HI11.out.b3 (by simp) rfl (by kernel_rfl) rfl ?_; intro w13 hb hos; (have HI13 := Lib.hid (HI11.out.set hb hos)); clear hb hos)
                  refine (HNd.out _ HI13.out.at_).mono ?_
                  rintro e w14 ⟨v, rfl, hr, ha, ho⟩
                  obtain ⟨ad, cd, rfl⟩ := slice_of_row hr
                  have HI14 := Lib.hid (HI13.out.call ha ho)
                  have HR14 := Lib.hid (row_low hr HI13.out.only.size)
                  clear ha ho hr
                  go_wp2_with fail
                  refine (takeRaw_ok _ _).mono ?_
                  rintro e w15 ⟨rfl, rfl⟩
                  go_wp2_with (first | (refine wpList_store_fld rfl 34 (.tmp 45) (.tmp 44) rfl g3 4 (.slice ad d.length cd) rfl rfl 62 _ #[.int .u64 (t : Int), .int .i64 (((2 : Nat) : Int)), .int .u64 (c : Int), .int .u64 (s : Int), .slice ad d.length cd, .slice none 0 0] HI14.out.b3 (by simp) rfl (by kernel_rfl) rfl ?_; intro w16 hb hos; (have HI16 := Lib.hid (HI14.out.set hb hos)); (have HR16 := Lib.hid (row_wrote HR14.out HI14.out.b3 hos)); clear hb hos) | (refine wpList_load_by rfl 62 (.tmp 3) rfl _ _ rfl (HI16.out.b3.loads 62 _ Try.underlying62 rfl (by kernel_rfl)) ?_) | (refine wpList_store_all rfl 62 (.tmp 2) (.tmp 51) rfl w.heap.size #[.int .u64 (t : Int), .int .i64 (((2 : Nat) : Int)), .int .u64 (c : Int), .int .u64 (s : Int), .slice ad d.length cd, .slice none 0 0] rfl rfl 62 zeroC HI16.out.b2 (by kernel_rfl) rfl (by simp [Value.oneCell']) ?_; intro wz hbz hoz; (have HBz := Lib.hid hbz); (have HDz := Lib.hid (HI16.out.done hoz)); (have HRz := Lib.hid (row_wrote HR16.out HI16.out.b2 hoz)); clear hbz hoz))
                  have HF := Lib.hid (show EntEnd G R l r w (.returned (.agg #[.int .u64 (t : Int), .int .i64 (((2 : Nat) : Int)), .int .u64 (c : Int), .int .u64 (s : Int), .slice ad d.length cd, .slice none 0 0])) wz from ⟨HDz.out.2, by rw [HE.out]; exact ⟨ad, cd, none, 0, rfl, ⟨⟨ht64, by simp, by simp, hc64, hs64, by simp⟩, HRz.out, World.ownsRow_nil _ _ _ _, hd64, by simp⟩, HDz.out.1⟩⟩)
                  exact bodyPost_ret (v := .agg #[.int .u64 (t : Int), .int .i64 (((2 : Nat) : Int)), .int .u64 (c : Int), .int .u64 (s : Int), .slice ad d.length cd, .slice none 0 0]) (results_cell_row rfl _ _ w.heap.size 62 #[.int .u64 (t : Int), .int .i64 (((2 : Nat) : Int)), .int .u64 (c : Int), .int .u64 (s : Int), .slice ad d.length cd, .slice none 0 0] (0, 0) _ rfl HBz.out Try.underlying62 rfl (by kernel_rfl)) rfl HF.out
          · by_cases k3' : k = 3
            · subst k3'
              have hgp : ∀ x, gConf t q2 = x → gEnt r = x := fun x e => HGk.out x (by rw [if_neg (by decide), if_neg (by decide), if_pos rfl, e])
              have HGp := Lib.hid hgp
              have HMe := Lib.hid (fun W (h : At W R G l q2) => rmembers_any h)
              clear HG HGk hgp k1' k2'
              cases hm : gMem q2 with
              | error x =>
                have HE := Lib.hid (HGp.out (.error x) (by simp only [gConf, hm]))
                have HGm := Lib.hid hm
                clear hm
                go_enter Try.func105, Try.ntmps105
                go_wp2_with fail
                refine HN.out.mono ?_
                rintro e w2 ⟨rfl, ha, ho⟩
                have HA := Lib.hid ha
                have HO := Lib.hid ((Only.of_below HB1.out).trans ho)
                have E2 := Lib.hid (E1.out.onlyR ho (by omega))
                have hsz : w.heap.size ≤ w2.heap.size := HO.out.size
                clear ha ho
                go_wp2_with fail
                refine (takeNum_ok t _).mono ?_
                rintro e w2 ⟨rfl, rfl⟩
                go_wp2_with (refine wpList_store_all rfl 62 (.tmp 3) (.tmp 9) rfl w2.heap.size #[.int .u64 (t : Int), .int .i64 0, .int .u64 0, .int .u64 0, .slice none 0 0, .slice none 0 0] rfl rfl 62 zeroC (Blk.new w2 62 zeroC) (by kernel_rfl) rfl (by simp [Value.oneCell']) ?_; intro w3 hb hos; (have HI := Lib.hid (show In w R G w.heap.size w2.heap.size l q #[.int .u64 (t : Int), .int .i64 0, .int .u64 0, .int .u64 0, .slice none 0 0, .slice none 0 0] w3 from ⟨(HA.out.below ((Below.refl _ _).alloc (Nat.le_refl _) _)).only hos (fun b hb e => absurd (e ▸ hb) (by have := HA.out.lt; omega)) (fun e => absurd e (by have := HA.out.lt; omega)), (HO.out.alloc _).wrote hos hsz, ((E2.out).alloc _).onlyS hos (fun e => absurd e (by have := E2.out.lt; omega)), hb, hlt.1, hlt.2, Nat.le_refl _, hsz, fun e => absurd e (by have := E2.out.lt; omega)⟩)); (have k0 : w3.cell? ⟨w2.heap.size, 0, none⟩ = some (.int .u64 (t : Int)) := by rw [hb.cell]; rfl); clear hb hos)
                refine (HC.out _).mono ?_
                rintro e w4 ⟨rfl, rfl⟩
                go_wp2_with fail
                refine (ask_yes _).mono ?_
                rintro e w4 ⟨rfl, rfl⟩
                clear k0
                obtain ⟨g3, hg3⟩ : ∃ g3, g3 = w2.heap.size := ⟨_, rfl⟩
                rw [← hg3] at HI ⊢
                clear hg3 HA HO E2
                go_wp2_with fail
                refine (HBy.out _ HI.out.at_).mono ?_
                rintro e w5 ⟨rfl, ha, ho⟩
                have HI5 := Lib.hid (HI.out.call ha ho)
                clear ha ho
                go_wp2_with fail
                refine (takeByte_ok _ _).mono ?_
                rintro e w6 ⟨rfl, rfl⟩
                go_wp2_with (first | (refine wpList_store_fld rfl 3 (.tmp 20) (.tmp 19) rfl g3 1 (.int .i64 (((3 : Nat) : Int))) rfl rfl 62 _ #[.int .u64 (t : Int), .int .i64 (((3 : Nat) : Int)), .int .u64 0, .int .u64 0, .slice none 0 0, .slice none 0 0] HI5.out.b3 (by simp) rfl (by kernel_rfl) rfl ?_; intro w7 hb hos; (have HI7 := Lib.hid (HI5.out.set hb hos)); (have k1 : w7.cell? ⟨g3, 1, none⟩ = some (.int .i64 (((3 : Nat) : Int))) := by rw [hb.cell]; rfl); clear hb hos))
                refine (HMe.out _ HI7.out.at_).mono ?_
                rintro e w8 ⟨ho, hx⟩
                rw [HGm.out] at hx
                obtain rfl := hx
                have HOf := Lib.hid (HI7.out.only.trans ho)
                clear ho
                refine ⟨rfl, HOf.out, ?_⟩
                rw [HE.out]
              | ok p =>
                obtain ⟨m, q3⟩ := p
                have HE := Lib.hid (HGp.out (.ok (⟨t, 3, 0, 0, [], m⟩, q3)) (by simp only [gConf, hm]))
                have hm7 := (memOk_len (gMem_back hm).1).2
                have hmr : ∀ x ∈ m, x < 18446744073709551616 := fun x hx => by
                  have h := (gMem_back hm).1
                  simp [memOk] at h
                  have := rises_lt m 0 h.2 x hx
                  omega
                have HMr := Lib.hid hmr
                have HGm := Lib.hid hm
                clear hm hmr
                go_enter Try.func105, Try.ntmps105
                go_wp2_with fail
                refine HN.out.mono ?_
                rintro e w2 ⟨rfl, ha, ho⟩
                have HA := Lib.hid ha
                have HO := Lib.hid ((Only.of_below HB1.out).trans ho)
                have E2 := Lib.hid (E1.out.onlyR ho (by omega))
                have hsz : w.heap.size ≤ w2.heap.size := HO.out.size
                clear ha ho
                go_wp2_with fail
                refine (takeNum_ok t _).mono ?_
                rintro e w2 ⟨rfl, rfl⟩
                go_wp2_with (refine wpList_store_all rfl 62 (.tmp 3) (.tmp 9) rfl w2.heap.size #[.int .u64 (t : Int), .int .i64 0, .int .u64 0, .int .u64 0, .slice none 0 0, .slice none 0 0] rfl rfl 62 zeroC (Blk.new w2 62 zeroC) (by kernel_rfl) rfl (by simp [Value.oneCell']) ?_; intro w3 hb hos; (have HI := Lib.hid (show In w R G w.heap.size w2.heap.size l q #[.int .u64 (t : Int), .int .i64 0, .int .u64 0, .int .u64 0, .slice none 0 0, .slice none 0 0] w3 from ⟨(HA.out.below ((Below.refl _ _).alloc (Nat.le_refl _) _)).only hos (fun b hb e => absurd (e ▸ hb) (by have := HA.out.lt; omega)) (fun e => absurd e (by have := HA.out.lt; omega)), (HO.out.alloc _).wrote hos hsz, ((E2.out).alloc _).onlyS hos (fun e => absurd e (by have := E2.out.lt; omega)), hb, hlt.1, hlt.2, Nat.le_refl _, hsz, fun e => absurd e (by have := E2.out.lt; omega)⟩)); (have k0 : w3.cell? ⟨w2.heap.size, 0, none⟩ = some (.int .u64 (t : Int)) := by rw [hb.cell]; rfl); clear hb hos)
                refine (HC.out _).mono ?_
                rintro e w4 ⟨rfl, rfl⟩
                go_wp2_with fail
                refine (ask_yes _).mono ?_
                rintro e w4 ⟨rfl, rfl⟩
                clear k0
                obtain ⟨g3, hg3⟩ : ∃ g3, g3 = w2.heap.size := ⟨_, rfl⟩
                rw [← hg3] at HI ⊢
                clear hg3 HA HO E2
                go_wp2_with fail
                refine (HBy.out _ HI.out.at_).mono ?_
                rintro e w5 ⟨rfl, ha, ho⟩
                have HI5 := Lib.hid (HI.out.call ha ho)
                clear ha ho
                go_wp2_with fail
                refine (takeByte_ok _ _).mono ?_
                rintro e w6 ⟨rfl, rfl⟩
                go_wp2_with (first | (refine wpList_store_fld rfl 3 (.tmp 20) (.tmp 19) rfl g3 1 (.int .i64 (((3 : Nat) : Int))) rfl rfl 62 _ #[.int .u64 (t : Int), .int .i64 (((3 : Nat) : Int)), .int .u64 0, .int .u64 0, .slice none 0 0, .slice none 0 0] HI5.out.b3 (by simp) rfl (by kernel_rfl) rfl ?_; intro w7 hb hos; (have HI7 := Lib.hid (HI5.out.set hb hos)); (have k1 : w7.cell? ⟨g3, 1, none⟩ = some (.int .i64 (((3 : Nat) : Int))) := by rw [hb.cell]; rfl); clear hb hos))
                refine (HMe.out _ HI7.out.at_).mono ?_
                rintro e w8 ⟨ho, hx⟩
                rw [HGm.out] at hx
                obtain ⟨v, rfl, hr, ha⟩ := hx
                obtain ⟨am, cm, rfl⟩ := hr.nums.shape
                have HI8 := Lib.hid (HI7.out.call ha ho)
                have HR8 := Lib.hid (nrow_low hr HI7.out.only.size)
                clear ho hr ha k1
                go_wp2_with (first | (refine wpList_store_fld rfl 33 (.tmp 50) (.tmp 49) rfl g3 5 (.slice am m.length cm) rfl rfl 62 _ #[.int .u64 (t : Int), .int .i64 (((3 : Nat) : Int)), .int .u64 0, .int .u64 0, .slice none 0 0, .slice am m.length cm] HI8.out.b3 (by simp) rfl (by kernel_rfl) rfl ?_; intro w9 hb hos; (have HI9 := Lib.hid (HI8.out.set hb hos)); (have HR9 := Lib.hid (nrow_wrote HR8.out HI8.out.b3 hos)); clear hb hos) | (refine wpList_load_by rfl 62 (.tmp 3) rfl _ _ rfl (HI9.out.b3.loads 62 _ Try.underlying62 rfl (by kernel_rfl)) ?_) | (refine wpList_store_all rfl 62 (.tmp 2) (.tmp 51) rfl w.heap.size #[.int .u64 (t : Int), .int .i64 (((3 : Nat) : Int)), .int .u64 0, .int .u64 0, .slice none 0 0, .slice am m.length cm] rfl rfl 62 zeroC HI9.out.b2 (by kernel_rfl) rfl (by simp [Value.oneCell']) ?_; intro wz hbz hoz; (have HBz := Lib.hid hbz); (have HDz := Lib.hid (HI9.out.done hoz)); (have HRz := Lib.hid (nrow_wrote HR9.out HI9.out.b2 hoz)); clear hbz hoz))
                have HF := Lib.hid (show EntEnd G R l r w (.returned (.agg #[.int .u64 (t : Int), .int .i64 (((3 : Nat) : Int)), .int .u64 0, .int .u64 0, .slice none 0 0, .slice am m.length cm])) wz from ⟨HDz.out.2, by rw [HE.out]; exact ⟨none, 0, am, cm, rfl, ⟨⟨ht64, by simp, by simp, by simp, by simp, HMr.out⟩, World.ownsRow_nil _ _ _ _, HRz.out, by simp, hm7⟩, HDz.out.1⟩⟩)
                exact bodyPost_ret (v := .agg #[.int .u64 (t : Int), .int .i64 (((3 : Nat) : Int)), .int .u64 0, .int .u64 0, .slice none 0 0, .slice am m.length cm]) (results_cell_row rfl _ _ w.heap.size 62 #[.int .u64 (t : Int), .int .i64 (((3 : Nat) : Int)), .int .u64 0, .int .u64 0, .slice none 0 0, .slice am m.length cm] (0, 0) _ rfl HBz.out Try.underlying62 rfl (by kernel_rfl)) rfl HF.out
            · have HE := Lib.hid (HGk.out (.error 3) (by rw [if_neg k1', if_neg k2', if_neg k3']))
              have e1 : (((k : Nat) : Int) == 1) = false := beq_false_of_ne (by omega)
              have e2 : (((k : Nat) : Int) == 2) = false := beq_false_of_ne (by omega)
              have e3 : (((k : Nat) : Int) == 3) = false := beq_false_of_ne (by omega)
              clear HG HGk
              go_enter Try.func105, Try.ntmps105
              go_wp2_with fail
              refine HN.out.mono ?_
              rintro e w2 ⟨rfl, ha, ho⟩
              have HA := Lib.hid ha
              have HO := Lib.hid ((Only.of_below HB1.out).trans ho)
              have E2 := Lib.hid (E1.out.onlyR ho (by omega))
              have hsz : w.heap.size ≤ w2.heap.size := HO.out.size
              clear ha ho
              go_wp2_with fail
              refine (takeNum_ok t _).mono ?_
              rintro e w2 ⟨rfl, rfl⟩
              go_wp2_with (refine wpList_store_all rfl 62 (.tmp 3) (.tmp 9) rfl w2.heap.size #[.int .u64 (t : Int), .int .i64 0, .int .u64 0, .int .u64 0, .slice none 0 0, .slice none 0 0] rfl rfl 62 zeroC (Blk.new w2 62 zeroC) (by kernel_rfl) rfl (by simp [Value.oneCell']) ?_; intro w3 hb hos; (have HI := Lib.hid (show In w R G w.heap.size w2.heap.size l q #[.int .u64 (t : Int), .int .i64 0, .int .u64 0, .int .u64 0, .slice none 0 0, .slice none 0 0] w3 from ⟨(HA.out.below ((Below.refl _ _).alloc (Nat.le_refl _) _)).only hos (fun b hb e => absurd (e ▸ hb) (by have := HA.out.lt; omega)) (fun e => absurd e (by have := HA.out.lt; omega)), (HO.out.alloc _).wrote hos hsz, ((E2.out).alloc _).onlyS hos (fun e => absurd e (by have := E2.out.lt; omega)), hb, hlt.1, hlt.2, Nat.le_refl _, hsz, fun e => absurd e (by have := E2.out.lt; omega)⟩)); (have k0 : w3.cell? ⟨w2.heap.size, 0, none⟩ = some (.int .u64 (t : Int)) := by rw [hb.cell]; rfl); clear hb hos)
              refine (HC.out _).mono ?_
              rintro e w4 ⟨rfl, rfl⟩
              go_wp2_with fail
              refine (ask_yes _).mono ?_
              rintro e w4 ⟨rfl, rfl⟩
              clear k0
              obtain ⟨g3, hg3⟩ : ∃ g3, g3 = w2.heap.size := ⟨_, rfl⟩
              rw [← hg3] at HI ⊢
              clear hg3 HA HO E2
              go_wp2_with fail
              refine (HBy.out _ HI.out.at_).mono ?_
              rintro e w5 ⟨rfl, ha, ho⟩
              have HI5 := Lib.hid (HI.out.call ha ho)
              clear ha ho
              go_wp2_with fail
              refine (takeByte_ok _ _).mono ?_
              rintro e w6 ⟨rfl, rfl⟩
              go_wp2_with (first | (refine wpList_store_fld rfl 3 (.tmp 20) (.tmp 19) rfl g3 1 (.int .i64 ((k : Int))) rfl rfl 62 _ #[.int .u64 (t : Int), .int .i64 ((k : Int)), .int .u64 0, .int .u64 0, .slice none 0 0, .slice none 0 0] HI5.out.b3 (by simp) rfl (by kernel_rfl) rfl ?_; intro w7 hb hos; (have HI7 := Lib.hid (HI5.out.set hb hos)); (have k1 : w7.cell? ⟨g3, 1, none⟩ = some (.int .i64 ((k : Int))) := by rw [hb.cell]; rfl); clear hb hos))
              refine (must_bad 3 _ (by decide)).mono ?_
              rintro e w8 ⟨rfl, rfl⟩
              refine ⟨rfl, HI7.out.only, ?_⟩
              rw [HE.out]
    · rw [decide_eq_false htt] at hct
      have HC := Lib.hid hct
      have HE := Lib.hid (HGb.out htt)
      clear hct htt
      go_enter Try.func105, Try.ntmps105
      go_wp2_with fail
      refine HN.out.mono ?_
      rintro e w2 ⟨rfl, ha, ho⟩
      have HA := Lib.hid ha
      have HO := Lib.hid ((Only.of_below HB1.out).trans ho)
      have E2 := Lib.hid (E1.out.onlyR ho (by omega))
      have hsz : w.heap.size ≤ w2.heap.size := HO.out.size
      clear ha ho
      go_wp2_with fail
      refine (takeNum_ok t _).mono ?_
      rintro e w2 ⟨rfl, rfl⟩
      go_wp2_with (refine wpList_store_all rfl 62 (.tmp 3) (.tmp 9) rfl w2.heap.size #[.int .u64 (t : Int), .int .i64 0, .int .u64 0, .int .u64 0, .slice none 0 0, .slice none 0 0] rfl rfl 62 zeroC (Blk.new w2 62 zeroC) (by kernel_rfl) rfl (by simp [Value.oneCell']) ?_; intro w3 hb hos; (have HI := Lib.hid (show In w R G w.heap.size w2.heap.size l q #[.int .u64 (t : Int), .int .i64 0, .int .u64 0, .int .u64 0, .slice none 0 0, .slice none 0 0] w3 from ⟨(HA.out.below ((Below.refl _ _).alloc (Nat.le_refl _) _)).only hos (fun b hb e => absurd (e ▸ hb) (by have := HA.out.lt; omega)) (fun e => absurd e (by have := HA.out.lt; omega)), (HO.out.alloc _).wrote hos hsz, ((E2.out).alloc _).onlyS hos (fun e => absurd e (by have := E2.out.lt; omega)), hb, hlt.1, hlt.2, Nat.le_refl _, hsz, fun e => absurd e (by have := E2.out.lt; omega)⟩)); (have k0 : w3.cell? ⟨w2.heap.size, 0, none⟩ = some (.int .u64 (t : Int)) := by rw [hb.cell]; rfl); clear hb hos)
      refine (HC.out _).mono ?_
      rintro e w4 ⟨rfl, rfl⟩
      go_wp2_with fail
      refine (ask_no _).mono ?_
      rintro e w4 ⟨rfl, rfl⟩
      refine ⟨rfl, HI.out.only, ?_⟩
      rw [HE.out]

end Go.Proofs.Ytgbhfolbkgibfaa

