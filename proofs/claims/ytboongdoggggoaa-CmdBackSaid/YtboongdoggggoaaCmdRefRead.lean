/- An entry, read by the reference. -/
import Derived.Test.YtboongdoggggoaaCmdGet
import Derived.Test.YtboongdoggggoaaCmdIds
namespace Go.Proofs.Ytboongdoggggoaa
set_option maxRecDepth 20000
open Go.RowKit BinMath CmdMath
variable {G : Nat} {a : Option Addr} {cap : Nat}

/-- In the midst of the reading: the reader, the block of the result and that of the entry. -/
structure RIn (w : World) (Q G : Nat) (a : Option Addr) (cap : Nat) (g2 g3 : Nat) (l r : List UInt8) (c3 : Array Value) (W : World) : Prop where
  at_ : RAt W Q G a cap l r
  only : Only Q w W
  b2 : Blk W g2 87 zeroC
  b3 : Blk W g3 87 c3
  rw_ : Q < w.heap.size
  gw : G ≤ Q
  h2 : w.heap.size ≤ g2
  h3 : w.heap.size ≤ g3
  ne : g2 ≠ g3

theorem RIn.call {w W W' : World} {Q g2 g3 : Nat} {l r r' : List UInt8} {c3 : Array Value} (h : RIn w Q G a cap g2 g3 l r c3 W) (ha : RAt W' Q G a cap l r') (ho : Only Q W W') : RIn w Q G a cap g2 g3 l r' c3 W' :=
  have h1 := h.rw_; have h2 := h.h2; have h3 := h.h3
  ⟨ha, h.only.trans ho, h.b2.onlyR ho (by omega), h.b3.onlyR ho (by omega), h.rw_, h.gw, h.h2, h.h3, h.ne⟩

theorem RIn.set {w W W' : World} {Q g2 g3 : Nat} {l r : List UInt8} {c3 c3' : Array Value} (h : RIn w Q G a cap g2 g3 l r c3 W) (hb : Blk W' g3 87 c3') (ho : OnlyS (fun b => b = g3) W W') : RIn w Q G a cap g2 g3 l r c3' W' :=
  have h0 := h.rw_; have h1 := h.gw; have h2 := h.h2; have h3 := h.h3
  ⟨h.at_.only ho (fun b hb e => by omega) (by intro e; omega), h.only.wrote ho h.h3, h.b2.onlyS ho h.ne, hb, h.rw_, h.gw, h.h2, h.h3, h.ne⟩

theorem RIn.done {w W W' : World} {Q g2 g3 : Nat} {l r : List UInt8} {c3 : Array Value} (h : RIn w Q G a cap g2 g3 l r c3 W) (ho : OnlyS (fun b => b = g2) W W') : RAt W' Q G a cap l r ∧ Only Q w W' :=
  have h0 := h.rw_; have h1 := h.gw; have h2 := h.h2
  ⟨h.at_.only ho (fun b hb e => by omega) (by intro e; omega), h.only.wrote ho h.h2⟩

/-- Behind a reading that failed the reader is of no use. -/
theorem RIn.fell {w W W' : World} {Q g2 g3 : Nat} {l r : List UInt8} {c3 : Array Value} (h : RIn w Q G a cap g2 g3 l r c3 W) (ho : Only Q W W') : Only Q w W' ∧ Blk W' g2 87 zeroC ∧ Blk W' g3 87 c3 :=
  have h1 := h.rw_; have h2 := h.h2; have h3 := h.h3
  ⟨h.only.trans ho, h.b2.onlyR ho (by omega), h.b3.onlyR ho (by omega)⟩

/-- How the reference's reading of an entry ends. -/
def REnd (G Q : Nat) (a : Option Addr) (cap : Nat) (l r : List UInt8) (w : World) (e : Ending) (w' : World) : Prop :=
  Only Q w w' ∧ match gEnt r with
    | .ok (x, q) => ∃ a' ca b' cb, e = .returned (.tuple #[.agg (entC x a' ca b' cb), .int .i64 0]) ∧ Mine w' w.heap.size x a' ca b' cb ∧ RAt w' Q G a cap l q
    | .error c => e = .returned (.tuple #[.agg zeroC, .int .i64 (c : Int)])

theorem rEnd_err {Q : Nat} {l r : List UInt8} {w w' : World} {c : Nat} (h : gEnt r = .error c) (ho : Only Q w w') : REnd G Q a cap l r w (.returned (.tuple #[.agg zeroC, .int .i64 (c : Int)])) w' := by
  unfold REnd
  rw [h]
  exact ⟨ho, rfl⟩

theorem rEnd_ok {Q : Nat} {l r q : List UInt8} {w w' : World} {x : Ent} {a' b' : Option Addr} {ca cb : Nat} (h : gEnt r = .ok (x, q)) (ho : Only Q w w') (hm : Mine w' w.heap.size x a' ca b' cb) (ha : RAt w' Q G a cap l q) :
    REnd G Q a cap l r w (.returned (.tuple #[.agg (entC x a' ca b' cb), .int .i64 0])) w' := by
  unfold REnd
  rw [h]
  exact ⟨ho, _, _, _, _, rfl, hm, ha⟩

theorem ret_entry {fn : Func} {p u : Tmp} (h : fn.results = #[.cell p 87, .tmp u]) (tmps : Array Value) (W : World) (g : Nat) (cs : Array Value) (c : Value) (hs : cs.size = 6) (hp : tmps.getD p undef = .pointer (some ⟨g, 0, none⟩)) (hc : tmps.getD u undef = c) (hb : Blk W g 87 cs) :
    (results fn tmps).run Try.prog W = .ok (.tuple #[.agg cs, c]) W := by
  have h6 : (Try.prog.info? 87).map (·.size) = some 6 := by kernel_rfl
  have hl := run_loadVar_row (P := Try.prog) W g 87 87 cs (0, 0) _ hb Try.underlying87 rfl (by rw [hs]; exact h6)
  rw [results_cell_tmp h, hp, hc]
  simp [asAddr, Result.andThen, hl]

set_option maxHeartbeats 8000000 in
set_option maxRecDepth 100000 in
theorem refread_any {Q : Nat} {l r : List UInt8} {w : World} (h : RAt w Q G a cap l r) :
    Calls Try.prog 89 #[.pointer (some ⟨Q, 0, none⟩)] w (REnd G Q a cap l r w) := by
  have hlt := h.lt
  have hz0 : (((0 : Nat) : Int) != 0) = false := rfl
  have b1 : Below w.heap.size w ((w.alloc (.cells zeroC 87)).alloc (.cells zeroC 87)) := ((Below.refl _ _).alloc (Nat.le_refl _) _).alloc (by simp) _
  have hI : RIn w Q G a cap w.heap.size (w.heap.size + 1) l r zeroC ((w.alloc (.cells zeroC 87)).alloc (.cells zeroC 87)) :=
    ⟨h.below b1, Only.of_below b1, (Blk.new w _ _).alloc _, by have := Blk.new (w.alloc (.cells zeroC 87)) 87 zeroC; simpa using this, hlt.1, hlt.2, Nat.le_refl _, by omega, by omega⟩
  have HI0 := Lib.hid hI
  clear h b1 hI
  cases hn : gNum r with
  | error c =>
    have hc := gNum_err hn
    have hcz : ((c : Int) != 0) = true := by simp; omega
    have HE := Lib.hid (show gEnt r = .error c by simp only [gEnt, hn])
    have HN := Lib.hid (refreadNum_bad HI0.out.at_ hn)
    clear hn hc
    go_enter Try.func89, Try.ntmps89
    go_wp2_with fail
    refine HN.out.mono ?_
    rintro e w2 ⟨rfl, ho⟩
    have HOf := Lib.hid (HI0.out.fell ho).1
    have HF2 := Lib.hid (HI0.out.fell ho).2.1
    clear ho
    go_wp2_with (refine wpList_store_all rfl 87 (.tmp 2) (.tmp 15) rfl w.heap.size #[.int .u64 0, .int .i64 0, .int .u64 0, .int .u64 0, .slice none 0 0, .slice none 0 0] rfl rfl 87 zeroC HF2.out (by kernel_rfl) rfl (by simp [Value.oneCell']) ?_; intro wz hbz hoz; (have HBz := Lib.hid hbz); (have HOz := Lib.hid (HOf.out.wrote hoz (Nat.le_refl _))); clear hbz hoz)
    exact bodyPost_ret (v := .tuple #[.agg zeroC, .int .i64 (c : Int)]) (ret_entry rfl _ _ w.heap.size zeroC _ rfl rfl rfl HBz.out) rfl (rEnd_err HE.out HOz.out)
  | ok p =>
    obtain ⟨t, q⟩ := p
    have ht64 := (gNum_back hn).1
    have HN := Lib.hid (refreadNum_ok HI0.out.at_ hn)
    have hge : ∀ x, (1 ≤ t ∧ t ≤ 4611686018427387904) → gKind t q = x → gEnt r = x := fun x h e => by simp only [gEnt, hn, if_pos h, e]
    have hgb : ¬ (1 ≤ t ∧ t ≤ 4611686018427387904) → gEnt r = .error 3 := fun h => by simp only [gEnt, hn, if_neg h]
    have HGe := Lib.hid hge
    have HGb := Lib.hid hgb
    clear hn hge hgb
    by_cases htl : 1 ≤ t
    · by_cases hth : t ≤ 4611686018427387904
      · have d1 : decide ((t : Int) < 1) = false := by simp; omega
        have d2 : decide ((4611686018427387904 : Int) < (t : Int)) = false := by simp; omega
        have HG := Lib.hid (fun x e => HGe.out x ⟨htl, hth⟩ e)
        clear HGe HGb
        cases hb : gByte q with
        | error c =>
          have hc : c = 2 := by cases q <;> simp [gByte] at hb; exact hb.symm
          subst hc
          have HE := Lib.hid (HG.out (.error 2) (by simp only [gKind, hb]))
          have HBy := Lib.hid (fun W (h : RAt W Q G a cap l q) => refreadByte_bad h hb)
          clear hb
          go_enter Try.func89, Try.ntmps89
          go_wp2_with fail
          refine HN.out.mono ?_
          rintro e w2 ⟨rfl, ha, ho⟩
          have HI2 := Lib.hid (HI0.out.call ha ho)
          have HOf := Lib.hid HI2.out.only
          clear ha ho
          go_wp2_with (refine wpList_store_fld rfl 33 (.tmp 25) (.tmp 24) rfl (w.heap.size + 1) 0 (.int .u64 (t : Int)) rfl rfl 87 _ #[.int .u64 (t : Int), .int .i64 0, .int .u64 0, .int .u64 0, .slice none 0 0, .slice none 0 0] HI2.out.b3 (by simp [zeroC]) rfl (by kernel_rfl) rfl ?_; intro w3 hb hos; (have HI3 := Lib.hid (HI2.out.set hb hos)); clear hb hos)
          refine (HBy.out _ HI3.out.at_).mono ?_
          rintro e w4 ⟨rfl, ho⟩
          have HF2 := Lib.hid (HI3.out.fell ho).2.1
          have HO4 := Lib.hid (HI3.out.fell ho).1
          clear HOf ho
          have HOf := HO4
          have h2z : (((2 : Nat) : Int) != 0) = true := rfl
          go_wp2_with (refine wpList_store_all rfl 87 (.tmp 2) (.tmp 33) rfl w.heap.size #[.int .u64 0, .int .i64 0, .int .u64 0, .int .u64 0, .slice none 0 0, .slice none 0 0] rfl rfl 87 zeroC HF2.out (by kernel_rfl) rfl (by simp [Value.oneCell']) ?_; intro wz hbz hoz; (have HBz := Lib.hid hbz); (have HOz := Lib.hid (HOf.out.wrote hoz (Nat.le_refl _))); clear hbz hoz)
          exact bodyPost_ret (v := .tuple #[.agg zeroC, .int .i64 ((2 : Nat) : Int)]) (ret_entry rfl _ _ w.heap.size zeroC _ rfl rfl rfl HBz.out) rfl (rEnd_err HE.out HOz.out)
        | ok p =>
          obtain ⟨k, q2⟩ := p
          have hk := (gByte_back hb).1
          have HBy := Lib.hid (fun W (h : RAt W Q G a cap l q) => refreadByte_ok h hb)
          have hcv := conv_byte k hk
          have hgk : ∀ x, (if k = 1 then .ok (⟨t, 1, 0, 0, [], []⟩, q2) else if k = 2 then gPut t q2 else if k = 3 then gConf t q2 else .error 3) = x → gEnt r = x := fun x e => HG.out x (by simp only [gKind, hb, e])
          have HGk := Lib.hid hgk
          clear hb hgk
          by_cases k1' : k = 1
          · subst k1'
            have HE := Lib.hid (HGk.out _ (if_pos rfl))
            clear HG HGk
            go_enter Try.func89, Try.ntmps89
            go_wp2_with fail
            refine HN.out.mono ?_
            rintro e w2 ⟨rfl, ha, ho⟩
            have HI2 := Lib.hid (HI0.out.call ha ho)
            have HOf := Lib.hid HI2.out.only
            clear ha ho
            go_wp2_with (refine wpList_store_fld rfl 33 (.tmp 25) (.tmp 24) rfl (w.heap.size + 1) 0 (.int .u64 (t : Int)) rfl rfl 87 _ #[.int .u64 (t : Int), .int .i64 0, .int .u64 0, .int .u64 0, .slice none 0 0, .slice none 0 0] HI2.out.b3 (by simp [zeroC]) rfl (by kernel_rfl) rfl ?_; intro w3 hb hos; (have HI3 := Lib.hid (HI2.out.set hb hos)); clear hb hos)
            refine (HBy.out _ HI3.out.at_).mono ?_
            rintro e w4 ⟨rfl, ha, ho⟩
            have HI4 := Lib.hid (HI3.out.call ha ho)
            clear ha ho HOf
            go_wp2_with (first | (refine wpList_store_fld rfl 3 (.tmp 44) (.tmp 43) rfl (w.heap.size + 1) 1 (.int .i64 (((1 : Nat) : Int))) rfl rfl 87 _ #[.int .u64 (t : Int), .int .i64 (((1 : Nat) : Int)), .int .u64 0, .int .u64 0, .slice none 0 0, .slice none 0 0] HI4.out.b3 (by simp) rfl (by kernel_rfl) rfl ?_; intro w7 hb hos; (have HI7 := Lib.hid (HI4.out.set hb hos)); (have k1 : w7.cell? ⟨w.heap.size + 1, 1, none⟩ = some (.int .i64 (((1 : Nat) : Int))) := by rw [hb.cell]; rfl); clear hb hos) | (refine wpList_load_by rfl 87 (.tmp 4) rfl _ _ rfl (HI7.out.b3.loads 87 _ Try.underlying87 rfl (by kernel_rfl)) ?_) | (refine wpList_store_all rfl 87 (.tmp 2) (.tmp 91) rfl w.heap.size #[.int .u64 (t : Int), .int .i64 (((1 : Nat) : Int)), .int .u64 0, .int .u64 0, .slice none 0 0, .slice none 0 0] rfl rfl 87 zeroC HI7.out.b2 (by kernel_rfl) rfl (by simp [Value.oneCell']) ?_; intro wz hbz hoz; (have HBz := Lib.hid hbz); (have HDz := Lib.hid (HI7.out.done hoz)); clear hbz hoz))
            exact bodyPost_ret (v := .tuple #[.agg #[.int .u64 (t : Int), .int .i64 (((1 : Nat) : Int)), .int .u64 0, .int .u64 0, .slice none 0 0, .slice none 0 0], .int .i64 0]) (ret_entry rfl _ _ w.heap.size #[.int .u64 (t : Int), .int .i64 (((1 : Nat) : Int)), .int .u64 0, .int .u64 0, .slice none 0 0, .slice none 0 0] _ rfl rfl rfl HBz.out) rfl (rEnd_ok HE.out HDz.out.2 ⟨⟨ht64, by simp, by simp, by simp, by simp, by simp⟩, World.ownsRow_nil _ _ _ _, World.ownsRow_nil _ _ _ _, by simp, by simp⟩ HDz.out.1)
          · by_cases k2' : k = 2
            · subst k2'
              have hgp : ∀ x, gPut t q2 = x → gEnt r = x := fun x e => HGk.out x (by rw [if_neg (by decide), if_pos rfl, e])
              have HGp := Lib.hid hgp
              clear HG HGk hgp k1'
              cases hc : gNum q2 with
              | error x =>
                have hx := gNum_err hc
                have hcz : ((x : Int) != 0) = true := by simp; omega
                have HE := Lib.hid (HGp.out (.error x) (by simp only [gPut, hc]))
                have HNc := Lib.hid (fun W (h : RAt W Q G a cap l q2) => refreadNum_bad h hc)
                clear hc hx
                go_enter Try.func89, Try.ntmps89
                go_wp2_with fail
                refine HN.out.mono ?_
                rintro e w2 ⟨rfl, ha, ho⟩
                have HI2 := Lib.hid (HI0.out.call ha ho)
                have HOf := Lib.hid HI2.out.only
                clear ha ho
                go_wp2_with (refine wpList_store_fld rfl 33 (.tmp 25) (.tmp 24) rfl (w.heap.size + 1) 0 (.int .u64 (t : Int)) rfl rfl 87 _ #[.int .u64 (t : Int), .int .i64 0, .int .u64 0, .int .u64 0, .slice none 0 0, .slice none 0 0] HI2.out.b3 (by simp [zeroC]) rfl (by kernel_rfl) rfl ?_; intro w3 hb hos; (have HI3 := Lib.hid (HI2.out.set hb hos)); clear hb hos)
                refine (HBy.out _ HI3.out.at_).mono ?_
                rintro e w4 ⟨rfl, ha, ho⟩
                have HI4 := Lib.hid (HI3.out.call ha ho)
                clear ha ho HOf
                go_wp2_with (refine wpList_store_fld rfl 3 (.tmp 44) (.tmp 43) rfl (w.heap.size + 1) 1 (.int .i64 (((2 : Nat) : Int))) rfl rfl 87 _ #[.int .u64 (t : Int), .int .i64 (((2 : Nat) : Int)), .int .u64 0, .int .u64 0, .slice none 0 0, .slice none 0 0] HI4.out.b3 (by simp) rfl (by kernel_rfl) rfl ?_; intro w7 hb hos; (have HI7 := Lib.hid (HI4.out.set hb hos)); (have k1 : w7.cell? ⟨w.heap.size + 1, 1, none⟩ = some (.int .i64 (((2 : Nat) : Int))) := by rw [hb.cell]; rfl); clear hb hos)
                refine (HNc.out _ HI7.out.at_).mono ?_
                rintro e wf ⟨rfl, ho⟩
                have HOf := Lib.hid (HI7.out.fell ho).1
                have HF2 := Lib.hid (HI7.out.fell ho).2.1
                have HF3 := Lib.hid (HI7.out.fell ho).2.2
                clear ho
                go_wp2_with (first | (refine wpList_store_fld rfl 33 (.tmp 53) (.tmp 51) rfl (w.heap.size + 1) 2 (.int .u64 0) rfl rfl 87 _ #[.int .u64 (t : Int), .int .i64 (((2 : Nat) : Int)), .int .u64 0, .int .u64 0, .slice none 0 0, .slice none 0 0] HF3.out (by simp) rfl (by kernel_rfl) rfl ?_; intro wy hb hos; (have HOy := Lib.hid (HOf.out.wrote hos (Nat.le_succ _))); (have HY2 := Lib.hid (HF2.out.onlyS hos (by omega))); clear hb hos) | (refine wpList_store_all rfl 87 (.tmp 2) (.tmp 56) rfl w.heap.size #[.int .u64 0, .int .i64 0, .int .u64 0, .int .u64 0, .slice none 0 0, .slice none 0 0] rfl rfl 87 zeroC HY2.out (by kernel_rfl) rfl (by simp [Value.oneCell']) ?_; intro wz hbz hoz; (have HBz := Lib.hid hbz); (have HOz := Lib.hid (HOy.out.wrote hoz (Nat.le_refl _))); clear hbz hoz))
                exact bodyPost_ret (v := .tuple #[.agg zeroC, .int .i64 (x : Int)]) (ret_entry rfl _ _ w.heap.size zeroC _ rfl rfl rfl HBz.out) rfl (rEnd_err HE.out HOz.out)
              | ok p =>
                obtain ⟨c, q3⟩ := p
                have hc64 := (gNum_back hc).1
                have HNc := Lib.hid (fun W (h : RAt W Q G a cap l q2) => refreadNum_ok h hc)
                cases hs : gNum q3 with
                | error x =>
                  have hx := gNum_err hs
                  have hcz : ((x : Int) != 0) = true := by simp; omega
                  have HE := Lib.hid (HGp.out (.error x) (by simp only [gPut, hc, hs]))
                  have HNs := Lib.hid (fun W (h : RAt W Q G a cap l q3) => refreadNum_bad h hs)
                  clear hc hs hx
                  go_enter Try.func89, Try.ntmps89
                  go_wp2_with fail
                  refine HN.out.mono ?_
                  rintro e w2 ⟨rfl, ha, ho⟩
                  have HI2 := Lib.hid (HI0.out.call ha ho)
                  have HOf := Lib.hid HI2.out.only
                  clear ha ho
                  go_wp2_with (refine wpList_store_fld rfl 33 (.tmp 25) (.tmp 24) rfl (w.heap.size + 1) 0 (.int .u64 (t : Int)) rfl rfl 87 _ #[.int .u64 (t : Int), .int .i64 0, .int .u64 0, .int .u64 0, .slice none 0 0, .slice none 0 0] HI2.out.b3 (by simp [zeroC]) rfl (by kernel_rfl) rfl ?_; intro w3 hb hos; (have HI3 := Lib.hid (HI2.out.set hb hos)); clear hb hos)
                  refine (HBy.out _ HI3.out.at_).mono ?_
                  rintro e w4 ⟨rfl, ha, ho⟩
                  have HI4 := Lib.hid (HI3.out.call ha ho)
                  clear ha ho HOf
                  go_wp2_with (refine wpList_store_fld rfl 3 (.tmp 44) (.tmp 43) rfl (w.heap.size + 1) 1 (.int .i64 (((2 : Nat) : Int))) rfl rfl 87 _ #[.int .u64 (t : Int), .int .i64 (((2 : Nat) : Int)), .int .u64 0, .int .u64 0, .slice none 0 0, .slice none 0 0] HI4.out.b3 (by simp) rfl (by kernel_rfl) rfl ?_; intro w7 hb hos; (have HI7 := Lib.hid (HI4.out.set hb hos)); (have k1 : w7.cell? ⟨w.heap.size + 1, 1, none⟩ = some (.int .i64 (((2 : Nat) : Int))) := by rw [hb.cell]; rfl); clear hb hos)
                  refine (HNc.out _ HI7.out.at_).mono ?_
                  rintro e w8 ⟨rfl, ha, ho⟩
                  have HI8 := Lib.hid (HI7.out.call ha ho)
                  clear ha ho k1
                  go_wp2_with (refine wpList_store_fld rfl 33 (.tmp 53) (.tmp 51) rfl (w.heap.size + 1) 2 (.int .u64 (c : Int)) rfl rfl 87 _ #[.int .u64 (t : Int), .int .i64 (((2 : Nat) : Int)), .int .u64 (c : Int), .int .u64 0, .slice none 0 0, .slice none 0 0] HI8.out.b3 (by simp) rfl (by kernel_rfl) rfl ?_; intro w10 hb hos; (have HI10 := Lib.hid (HI8.out.set hb hos)); clear hb hos)
                  refine (HNs.out _ HI10.out.at_).mono ?_
                  rintro e wf ⟨rfl, ho⟩
                  have HOf := Lib.hid (HI10.out.fell ho).1
                  have HF2 := Lib.hid (HI10.out.fell ho).2.1
                  have HF3 := Lib.hid (HI10.out.fell ho).2.2
                  clear ho
                  go_wp2_with (first | (refine wpList_store_fld rfl 33 (.tmp 63) (.tmp 61) rfl (w.heap.size + 1) 3 (.int .u64 0) rfl rfl 87 _ #[.int .u64 (t : Int), .int .i64 (((2 : Nat) : Int)), .int .u64 (c : Int), .int .u64 0, .slice none 0 0, .slice none 0 0] HF3.out (by simp) rfl (by kernel_rfl) rfl ?_; intro wy hb hos; (have HOy := Lib.hid (HOf.out.wrote hos (Nat.le_succ _))); (have HY2 := Lib.hid (HF2.out.onlyS hos (by omega))); clear hb hos) | (refine wpList_store_all rfl 87 (.tmp 2) (.tmp 66) rfl w.heap.size #[.int .u64 0, .int .i64 0, .int .u64 0, .int .u64 0, .slice none 0 0, .slice none 0 0] rfl rfl 87 zeroC HY2.out (by kernel_rfl) rfl (by simp [Value.oneCell']) ?_; intro wz hbz hoz; (have HBz := Lib.hid hbz); (have HOz := Lib.hid (HOy.out.wrote hoz (Nat.le_refl _))); clear hbz hoz))
                  exact bodyPost_ret (v := .tuple #[.agg zeroC, .int .i64 (x : Int)]) (ret_entry rfl _ _ w.heap.size zeroC _ rfl rfl rfl HBz.out) rfl (rEnd_err HE.out HOz.out)
                | ok p =>
                  obtain ⟨s, q4⟩ := p
                  have hs64 := (gNum_back hs).1
                  have HNs := Lib.hid (fun W (h : RAt W Q G a cap l q3) => refreadNum_ok h hs)
                  cases hd : gText 64 q4 with
                  | error x =>
                    have hx := gText_err hd
                    have hcz : ((x : Int) != 0) = true := by simp; omega
                    have HE := Lib.hid (HGp.out (.error x) (by simp only [gPut, hc, hs, hd]))
                    have HNd := Lib.hid (fun W (h : RAt W Q G a cap l q4) => refreadRaw_bad h hd)
                    clear hc hs hd hx
                    go_enter Try.func89, Try.ntmps89
                    go_wp2_with fail
                    refine HN.out.mono ?_
                    rintro e w2 ⟨rfl, ha, ho⟩
                    have HI2 := Lib.hid (HI0.out.call ha ho)
                    have HOf := Lib.hid HI2.out.only
                    clear ha ho
                    go_wp2_with (refine wpList_store_fld rfl 33 (.tmp 25) (.tmp 24) rfl (w.heap.size + 1) 0 (.int .u64 (t : Int)) rfl rfl 87 _ #[.int .u64 (t : Int), .int .i64 0, .int .u64 0, .int .u64 0, .slice none 0 0, .slice none 0 0] HI2.out.b3 (by simp [zeroC]) rfl (by kernel_rfl) rfl ?_; intro w3 hb hos; (have HI3 := Lib.hid (HI2.out.set hb hos)); clear hb hos)
                    refine (HBy.out _ HI3.out.at_).mono ?_
                    rintro e w4 ⟨rfl, ha, ho⟩
                    have HI4 := Lib.hid (HI3.out.call ha ho)
                    clear ha ho HOf
                    go_wp2_with (refine wpList_store_fld rfl 3 (.tmp 44) (.tmp 43) rfl (w.heap.size + 1) 1 (.int .i64 (((2 : Nat) : Int))) rfl rfl 87 _ #[.int .u64 (t : Int), .int .i64 (((2 : Nat) : Int)), .int .u64 0, .int .u64 0, .slice none 0 0, .slice none 0 0] HI4.out.b3 (by simp) rfl (by kernel_rfl) rfl ?_; intro w7 hb hos; (have HI7 := Lib.hid (HI4.out.set hb hos)); (have k1 : w7.cell? ⟨w.heap.size + 1, 1, none⟩ = some (.int .i64 (((2 : Nat) : Int))) := by rw [hb.cell]; rfl); clear hb hos)
                    refine (HNc.out _ HI7.out.at_).mono ?_
                    rintro e w8 ⟨rfl, ha, ho⟩
                    have HI8 := Lib.hid (HI7.out.call ha ho)
                    clear ha ho k1
                    go_wp2_with (refine wpList_store_fld rfl 33 (.tmp 53) (.tmp 51) rfl (w.heap.size + 1) 2 (.int .u64 (c : Int)) rfl rfl 87 _ #[.int .u64 (t : Int), .int .i64 (((2 : Nat) : Int)), .int .u64 (c : Int), .int .u64 0, .slice none 0 0, .slice none 0 0] HI8.out.b3 (by simp) rfl (by kernel_rfl) rfl ?_; intro w10 hb hos; (have HI10 := Lib.hid (HI8.out.set hb hos)); clear hb hos)
                    refine (HNs.out _ HI10.out.at_).mono ?_
                    rintro e w11 ⟨rfl, ha, ho⟩
                    have HI11 := Lib.hid (HI10.out.call ha ho)
                    clear ha ho
                    go_wp2_with (refine wpList_store_fld rfl 33 (.tmp 63) (.tmp 61) rfl (w.heap.size + 1) 3 (.int .u64 (s : Int)) rfl rfl 87 _ #[.int .u64 (t : Int), .int .i64 (((2 : Nat) : Int)), .int .u64 (c : Int), .int .u64 (s : Int), .slice none 0 0, .slice none 0 0] HI11.out.b3 (by simp) rfl (by kernel_rfl) rfl ?_; intro w13 hb hos; (have HI13 := Lib.hid (HI11.out.set hb hos)); clear hb hos)
                    refine (HNd.out _ HI13.out.at_).mono ?_
                    rintro e wf ⟨v, rfl, hv, ho⟩
                    obtain ⟨av, cv, rfl⟩ : ∃ av cv, v = .slice av 0 cv := by
                      obtain ⟨av, rfl | ⟨cv, rfl⟩⟩ := hv
                      · exact ⟨_, _, rfl⟩
                      · exact ⟨_, _, rfl⟩
                    clear hv
                    have HOf := Lib.hid (HI13.out.fell ho).1
                    have HF2 := Lib.hid (HI13.out.fell ho).2.1
                    have HF3 := Lib.hid (HI13.out.fell ho).2.2
                    clear ho
                    go_wp2_with (first | (refine wpList_store_fld rfl 22 (.tmp 73) (.tmp 71) rfl (w.heap.size + 1) 4 (.slice av 0 cv) rfl rfl 87 _ #[.int .u64 (t : Int), .int .i64 (((2 : Nat) : Int)), .int .u64 (c : Int), .int .u64 (s : Int), .slice av 0 cv, .slice none 0 0] HF3.out (by simp) rfl (by kernel_rfl) rfl ?_; intro wy hb hos; (have HOy := Lib.hid (HOf.out.wrote hos (Nat.le_succ _))); (have HY2 := Lib.hid (HF2.out.onlyS hos (by omega))); clear hb hos) | (refine wpList_store_all rfl 87 (.tmp 2) (.tmp 76) rfl w.heap.size #[.int .u64 0, .int .i64 0, .int .u64 0, .int .u64 0, .slice none 0 0, .slice none 0 0] rfl rfl 87 zeroC HY2.out (by kernel_rfl) rfl (by simp [Value.oneCell']) ?_; intro wz hbz hoz; (have HBz := Lib.hid hbz); (have HOz := Lib.hid (HOy.out.wrote hoz (Nat.le_refl _))); clear hbz hoz))
                    exact bodyPost_ret (v := .tuple #[.agg zeroC, .int .i64 (x : Int)]) (ret_entry rfl _ _ w.heap.size zeroC _ rfl rfl rfl HBz.out) rfl (rEnd_err HE.out HOz.out)
                  | ok p =>
                    obtain ⟨d, q5⟩ := p
                    have hd64 := (gText_back hd).1
                    have HE := Lib.hid (HGp.out (.ok (⟨t, 2, c, s, d, []⟩, q5)) (by simp only [gPut, hc, hs, hd]))
                    have HNd := Lib.hid (fun W (h : RAt W Q G a cap l q4) => refreadRaw_ok h hd)
                    clear hc hs hd
                    go_enter Try.func89, Try.ntmps89
                    go_wp2_with fail
                    refine HN.out.mono ?_
                    rintro e w2 ⟨rfl, ha, ho⟩
                    have HI2 := Lib.hid (HI0.out.call ha ho)
                    have HOf := Lib.hid HI2.out.only
                    clear ha ho
                    go_wp2_with (refine wpList_store_fld rfl 33 (.tmp 25) (.tmp 24) rfl (w.heap.size + 1) 0 (.int .u64 (t : Int)) rfl rfl 87 _ #[.int .u64 (t : Int), .int .i64 0, .int .u64 0, .int .u64 0, .slice none 0 0, .slice none 0 0] HI2.out.b3 (by simp [zeroC]) rfl (by kernel_rfl) rfl ?_; intro w3 hb hos; (have HI3 := Lib.hid (HI2.out.set hb hos)); clear hb hos)
                    refine (HBy.out _ HI3.out.at_).mono ?_
                    rintro e w4 ⟨rfl, ha, ho⟩
                    have HI4 := Lib.hid (HI3.out.call ha ho)
                    clear ha ho HOf
                    go_wp2_with (refine wpList_store_fld rfl 3 (.tmp 44) (.tmp 43) rfl (w.heap.size + 1) 1 (.int .i64 (((2 : Nat) : Int))) rfl rfl 87 _ #[.int .u64 (t : Int), .int .i64 (((2 : Nat) : Int)), .int .u64 0, .int .u64 0, .slice none 0 0, .slice none 0 0] HI4.out.b3 (by simp) rfl (by kernel_rfl) rfl ?_; intro w7 hb hos; (have HI7 := Lib.hid (HI4.out.set hb hos)); (have k1 : w7.cell? ⟨w.heap.size + 1, 1, none⟩ = some (.int .i64 (((2 : Nat) : Int))) := by rw [hb.cell]; rfl); clear hb hos)
                    refine (HNc.out _ HI7.out.at_).mono ?_
                    rintro e w8 ⟨rfl, ha, ho⟩
                    have HI8 := Lib.hid (HI7.out.call ha ho)
                    clear ha ho k1
                    go_wp2_with (refine wpList_store_fld rfl 33 (.tmp 53) (.tmp 51) rfl (w.heap.size + 1) 2 (.int .u64 (c : Int)) rfl rfl 87 _ #[.int .u64 (t : Int), .int .i64 (((2 : Nat) : Int)), .int .u64 (c : Int), .int .u64 0, .slice none 0 0, .slice none 0 0] HI8.out.b3 (by simp) rfl (by kernel_rfl) rfl ?_; intro w10 hb hos; (have HI10 := Lib.hid (HI8.out.set hb hos)); clear hb hos)
                    refine (HNs.out _ HI10.out.at_).mono ?_
                    rintro e w11 ⟨rfl, ha, ho⟩
                    have HI11 := Lib.hid (HI10.out.call ha ho)
                    clear ha ho
                    go_wp2_with (refine wpList_store_fld rfl 33 (.tmp 63) (.tmp 61) rfl (w.heap.size + 1) 3 (.int .u64 (s : Int)) rfl rfl 87 _ #[.int .u64 (t : Int), .int .i64 (((2 : Nat) : Int)), .int .u64 (c : Int), .int .u64 (s : Int), .slice none 0 0, .slice none 0 0] HI11.out.b3 (by simp) rfl (by kernel_rfl) rfl ?_; intro w13 hb hos; (have HI13 := Lib.hid (HI11.out.set hb hos)); clear hb hos)
                    refine (HNd.out _ HI13.out.at_).mono ?_
                    rintro e w14 ⟨v, rfl, hr, ha, ho⟩
                    obtain ⟨ad, cd, rfl⟩ := slice_of_row hr
                    have HI14 := Lib.hid (HI13.out.call ha ho)
                    have HR14 := Lib.hid (row_low hr HI13.out.only.size)
                    clear ha ho hr
                    go_wp2_with (first | (refine wpList_store_fld rfl 22 (.tmp 73) (.tmp 71) rfl (w.heap.size + 1) 4 (.slice ad d.length cd) rfl rfl 87 _ #[.int .u64 (t : Int), .int .i64 (((2 : Nat) : Int)), .int .u64 (c : Int), .int .u64 (s : Int), .slice ad d.length cd, .slice none 0 0] HI14.out.b3 (by simp) rfl (by kernel_rfl) rfl ?_; intro w16 hb hos; (have HI16 := Lib.hid (HI14.out.set hb hos)); (have k1 : w16.cell? ⟨w.heap.size + 1, 1, none⟩ = some (.int .i64 (((2 : Nat) : Int))) := by rw [hb.cell]; rfl); (have HR16 := Lib.hid (row_wrote HR14.out HI14.out.b3 hos)); clear hb hos) | (refine wpList_load_by rfl 87 (.tmp 4) rfl _ _ rfl (HI16.out.b3.loads 87 _ Try.underlying87 rfl (by kernel_rfl)) ?_) | (refine wpList_store_all rfl 87 (.tmp 2) (.tmp 91) rfl w.heap.size #[.int .u64 (t : Int), .int .i64 (((2 : Nat) : Int)), .int .u64 (c : Int), .int .u64 (s : Int), .slice ad d.length cd, .slice none 0 0] rfl rfl 87 zeroC HI16.out.b2 (by kernel_rfl) rfl (by simp [Value.oneCell']) ?_; intro wz hbz hoz; (have HBz := Lib.hid hbz); (have HDz := Lib.hid (HI16.out.done hoz)); (have HRz := Lib.hid (row_wrote HR16.out HI16.out.b2 hoz)); clear hbz hoz))
                    exact bodyPost_ret (v := .tuple #[.agg #[.int .u64 (t : Int), .int .i64 (((2 : Nat) : Int)), .int .u64 (c : Int), .int .u64 (s : Int), .slice ad d.length cd, .slice none 0 0], .int .i64 0]) (ret_entry rfl _ _ w.heap.size #[.int .u64 (t : Int), .int .i64 (((2 : Nat) : Int)), .int .u64 (c : Int), .int .u64 (s : Int), .slice ad d.length cd, .slice none 0 0] _ rfl rfl rfl HBz.out) rfl (rEnd_ok HE.out HDz.out.2 ⟨⟨ht64, by simp, by simp, hc64, hs64, by simp⟩, HRz.out, World.ownsRow_nil _ _ _ _, hd64, by simp⟩ HDz.out.1)
            · by_cases k3' : k = 3
              · subst k3'
                have hgp : ∀ x, gConf t q2 = x → gEnt r = x := fun x e => HGk.out x (by rw [if_neg (by decide), if_neg (by decide), if_pos rfl, e])
                have HGp := Lib.hid hgp
                have HMe := Lib.hid (fun W (h : RAt W Q G a cap l q2) => ids_any h)
                clear HG HGk hgp k1' k2'
                cases hm : gMem q2 with
                | error x =>
                  have hx := gMem_err hm
                  have hcz : ((x : Int) != 0) = true := by simp; omega
                  have HE := Lib.hid (HGp.out (.error x) (by simp only [gConf, hm]))
                  have HGm := Lib.hid hm
                  clear hm hx
                  go_enter Try.func89, Try.ntmps89
                  go_wp2_with fail
                  refine HN.out.mono ?_
                  rintro e w2 ⟨rfl, ha, ho⟩
                  have HI2 := Lib.hid (HI0.out.call ha ho)
                  have HOf := Lib.hid HI2.out.only
                  clear ha ho
                  go_wp2_with (refine wpList_store_fld rfl 33 (.tmp 25) (.tmp 24) rfl (w.heap.size + 1) 0 (.int .u64 (t : Int)) rfl rfl 87 _ #[.int .u64 (t : Int), .int .i64 0, .int .u64 0, .int .u64 0, .slice none 0 0, .slice none 0 0] HI2.out.b3 (by simp [zeroC]) rfl (by kernel_rfl) rfl ?_; intro w3 hb hos; (have HI3 := Lib.hid (HI2.out.set hb hos)); clear hb hos)
                  refine (HBy.out _ HI3.out.at_).mono ?_
                  rintro e w4 ⟨rfl, ha, ho⟩
                  have HI4 := Lib.hid (HI3.out.call ha ho)
                  clear ha ho HOf
                  go_wp2_with (refine wpList_store_fld rfl 3 (.tmp 44) (.tmp 43) rfl (w.heap.size + 1) 1 (.int .i64 (((3 : Nat) : Int))) rfl rfl 87 _ #[.int .u64 (t : Int), .int .i64 (((3 : Nat) : Int)), .int .u64 0, .int .u64 0, .slice none 0 0, .slice none 0 0] HI4.out.b3 (by simp) rfl (by kernel_rfl) rfl ?_; intro w7 hb hos; (have HI7 := Lib.hid (HI4.out.set hb hos)); (have k1 : w7.cell? ⟨w.heap.size + 1, 1, none⟩ = some (.int .i64 (((3 : Nat) : Int))) := by rw [hb.cell]; rfl); clear hb hos)
                  refine (HMe.out _ HI7.out.at_).mono ?_
                  rintro e wf ⟨ho, hx⟩
                  rw [HGm.out] at hx
                  obtain rfl := hx
                  have HOf := Lib.hid (HI7.out.fell ho).1
                  have HF2 := Lib.hid (HI7.out.fell ho).2.1
                  have HF3 := Lib.hid (HI7.out.fell ho).2.2
                  clear ho
                  go_wp2_with (first | (refine wpList_store_fld rfl 43 (.tmp 86) (.tmp 84) rfl (w.heap.size + 1) 5 (.slice none 0 0) rfl rfl 87 _ #[.int .u64 (t : Int), .int .i64 (((3 : Nat) : Int)), .int .u64 0, .int .u64 0, .slice none 0 0, .slice none 0 0] HF3.out (by simp) rfl (by kernel_rfl) rfl ?_; intro wy hb hos; (have HOy := Lib.hid (HOf.out.wrote hos (Nat.le_succ _))); (have HY2 := Lib.hid (HF2.out.onlyS hos (by omega))); clear hb hos) | (refine wpList_store_all rfl 87 (.tmp 2) (.tmp 89) rfl w.heap.size #[.int .u64 0, .int .i64 0, .int .u64 0, .int .u64 0, .slice none 0 0, .slice none 0 0] rfl rfl 87 zeroC HY2.out (by kernel_rfl) rfl (by simp [Value.oneCell']) ?_; intro wz hbz hoz; (have HBz := Lib.hid hbz); (have HOz := Lib.hid (HOy.out.wrote hoz (Nat.le_refl _))); clear hbz hoz))
                  exact bodyPost_ret (v := .tuple #[.agg zeroC, .int .i64 (x : Int)]) (ret_entry rfl _ _ w.heap.size zeroC _ rfl rfl rfl HBz.out) rfl (rEnd_err HE.out HOz.out)
                | ok p =>
                  obtain ⟨m, q3⟩ := p
                  have HE := Lib.hid (HGp.out (.ok (⟨t, 3, 0, 0, [], m⟩, q3)) (by simp only [gConf, hm]))
                  have hm7 := (memOk_len (gMem_back hm).1).2
                  have hmr : ∀ x ∈ m, x < 18446744073709551616 := fun x hx => by
                    have h := (gMem_back hm).1
                    simp [memOk] at h
                    have := rises_lt m 0 h.2 x hx
                    omega
                  have HMr := Lib.hid hmr
                  have HGm := Lib.hid hm
                  clear hm hmr
                  go_enter Try.func89, Try.ntmps89
                  go_wp2_with fail
                  refine HN.out.mono ?_
                  rintro e w2 ⟨rfl, ha, ho⟩
                  have HI2 := Lib.hid (HI0.out.call ha ho)
                  have HOf := Lib.hid HI2.out.only
                  clear ha ho
                  go_wp2_with (refine wpList_store_fld rfl 33 (.tmp 25) (.tmp 24) rfl (w.heap.size + 1) 0 (.int .u64 (t : Int)) rfl rfl 87 _ #[.int .u64 (t : Int), .int .i64 0, .int .u64 0, .int .u64 0, .slice none 0 0, .slice none 0 0] HI2.out.b3 (by simp [zeroC]) rfl (by kernel_rfl) rfl ?_; intro w3 hb hos; (have HI3 := Lib.hid (HI2.out.set hb hos)); clear hb hos)
                  refine (HBy.out _ HI3.out.at_).mono ?_
                  rintro e w4 ⟨rfl, ha, ho⟩
                  have HI4 := Lib.hid (HI3.out.call ha ho)
                  clear ha ho HOf
                  go_wp2_with (refine wpList_store_fld rfl 3 (.tmp 44) (.tmp 43) rfl (w.heap.size + 1) 1 (.int .i64 (((3 : Nat) : Int))) rfl rfl 87 _ #[.int .u64 (t : Int), .int .i64 (((3 : Nat) : Int)), .int .u64 0, .int .u64 0, .slice none 0 0, .slice none 0 0] HI4.out.b3 (by simp) rfl (by kernel_rfl) rfl ?_; intro w7 hb hos; (have HI7 := Lib.hid (HI4.out.set hb hos)); (have k1 : w7.cell? ⟨w.heap.size + 1, 1, none⟩ = some (.int .i64 (((3 : Nat) : Int))) := by rw [hb.cell]; rfl); clear hb hos)
                  refine (HMe.out _ HI7.out.at_).mono ?_
                  rintro e w8 ⟨ho, hx⟩
                  rw [HGm.out] at hx
                  obtain ⟨v, rfl, hr, ha⟩ := hx
                  obtain ⟨am, cm, rfl⟩ := hr.nums.shape
                  have HI8 := Lib.hid (HI7.out.call ha ho)
                  have HR8 := Lib.hid (nrow_low hr HI7.out.only.size)
                  clear ho hr ha k1
                  go_wp2_with (first | (refine wpList_store_fld rfl 43 (.tmp 86) (.tmp 84) rfl (w.heap.size + 1) 5 (.slice am m.length cm) rfl rfl 87 _ #[.int .u64 (t : Int), .int .i64 (((3 : Nat) : Int)), .int .u64 0, .int .u64 0, .slice none 0 0, .slice am m.length cm] HI8.out.b3 (by simp) rfl (by kernel_rfl) rfl ?_; intro w9 hb hos; (have HI9 := Lib.hid (HI8.out.set hb hos)); (have HR9 := Lib.hid (nrow_wrote HR8.out HI8.out.b3 hos)); clear hb hos) | (refine wpList_load_by rfl 87 (.tmp 4) rfl _ _ rfl (HI9.out.b3.loads 87 _ Try.underlying87 rfl (by kernel_rfl)) ?_) | (refine wpList_store_all rfl 87 (.tmp 2) (.tmp 91) rfl w.heap.size #[.int .u64 (t : Int), .int .i64 (((3 : Nat) : Int)), .int .u64 0, .int .u64 0, .slice none 0 0, .slice am m.length cm] rfl rfl 87 zeroC HI9.out.b2 (by kernel_rfl) rfl (by simp [Value.oneCell']) ?_; intro wz hbz hoz; (have HBz := Lib.hid hbz); (have HDz := Lib.hid (HI9.out.done hoz)); (have HRz := Lib.hid (nrow_wrote HR9.out HI9.out.b2 hoz)); clear hbz hoz))
                  exact bodyPost_ret (v := .tuple #[.agg #[.int .u64 (t : Int), .int .i64 (((3 : Nat) : Int)), .int .u64 0, .int .u64 0, .slice none 0 0, .slice am m.length cm], .int .i64 0]) (ret_entry rfl _ _ w.heap.size #[.int .u64 (t : Int), .int .i64 (((3 : Nat) : Int)), .int .u64 0, .int .u64 0, .slice none 0 0, .slice am m.length cm] _ rfl rfl rfl HBz.out) rfl (rEnd_ok HE.out HDz.out.2 ⟨⟨ht64, by simp, by simp, by simp, by simp, HMr.out⟩, World.ownsRow_nil _ _ _ _, HRz.out, by simp, hm7⟩ HDz.out.1)
              · have HE := Lib.hid (HGk.out (.error 3) (by rw [if_neg k1', if_neg k2', if_neg k3']))
                clear HG HGk
                by_cases k0 : k < 1
                · have e1 : decide ((k : Int) < 1) = true := by simp; omega
                  go_enter Try.func89, Try.ntmps89
                  go_wp2_with fail
                  refine HN.out.mono ?_
                  rintro e w2 ⟨rfl, ha, ho⟩
                  have HI2 := Lib.hid (HI0.out.call ha ho)
                  have HOf := Lib.hid HI2.out.only
                  clear ha ho
                  go_wp2_with (refine wpList_store_fld rfl 33 (.tmp 25) (.tmp 24) rfl (w.heap.size + 1) 0 (.int .u64 (t : Int)) rfl rfl 87 _ #[.int .u64 (t : Int), .int .i64 0, .int .u64 0, .int .u64 0, .slice none 0 0, .slice none 0 0] HI2.out.b3 (by simp [zeroC]) rfl (by kernel_rfl) rfl ?_; intro w3 hb hos; (have HI3 := Lib.hid (HI2.out.set hb hos)); clear hb hos)
                  refine (HBy.out _ HI3.out.at_).mono ?_
                  rintro e w4 ⟨rfl, ha, ho⟩
                  have HI4 := Lib.hid (HI3.out.call ha ho)
                  clear ha ho HOf
                  have HOf := Lib.hid HI4.out.only
                  go_wp2_with (refine wpList_store_all rfl 87 (.tmp 2) (.tmp 41) rfl w.heap.size #[.int .u64 0, .int .i64 0, .int .u64 0, .int .u64 0, .slice none 0 0, .slice none 0 0] rfl rfl 87 zeroC HI4.out.b2 (by kernel_rfl) rfl (by simp [Value.oneCell']) ?_; intro wz hbz hoz; (have HBz := Lib.hid hbz); (have HOz := Lib.hid (HOf.out.wrote hoz (Nat.le_refl _))); clear hbz hoz)
                  exact bodyPost_ret (v := .tuple #[.agg zeroC, .int .i64 ((3 : Nat) : Int)]) (ret_entry rfl _ _ w.heap.size zeroC _ rfl rfl rfl HBz.out) rfl (rEnd_err HE.out HOz.out)
                · have e1 : decide ((k : Int) < 1) = false := by simp; omega
                  have e3 : decide ((3 : Int) < (k : Int)) = true := by simp; omega
                  have e3n : 3 < k := by omega
                  go_enter Try.func89, Try.ntmps89
                  go_wp2_with fail
                  refine HN.out.mono ?_
                  rintro e w2 ⟨rfl, ha, ho⟩
                  have HI2 := Lib.hid (HI0.out.call ha ho)
                  have HOf := Lib.hid HI2.out.only
                  clear ha ho
                  go_wp2_with (refine wpList_store_fld rfl 33 (.tmp 25) (.tmp 24) rfl (w.heap.size + 1) 0 (.int .u64 (t : Int)) rfl rfl 87 _ #[.int .u64 (t : Int), .int .i64 0, .int .u64 0, .int .u64 0, .slice none 0 0, .slice none 0 0] HI2.out.b3 (by simp [zeroC]) rfl (by kernel_rfl) rfl ?_; intro w3 hb hos; (have HI3 := Lib.hid (HI2.out.set hb hos)); clear hb hos)
                  refine (HBy.out _ HI3.out.at_).mono ?_
                  rintro e w4 ⟨rfl, ha, ho⟩
                  have HI4 := Lib.hid (HI3.out.call ha ho)
                  clear ha ho HOf
                  have HOf := Lib.hid HI4.out.only
                  go_wp2_with (refine wpList_store_all rfl 87 (.tmp 2) (.tmp 41) rfl w.heap.size #[.int .u64 0, .int .i64 0, .int .u64 0, .int .u64 0, .slice none 0 0, .slice none 0 0] rfl rfl 87 zeroC HI4.out.b2 (by kernel_rfl) rfl (by simp [Value.oneCell']) ?_; intro wz hbz hoz; (have HBz := Lib.hid hbz); (have HOz := Lib.hid (HOf.out.wrote hoz (Nat.le_refl _))); clear hbz hoz)
                  exact bodyPost_ret (v := .tuple #[.agg zeroC, .int .i64 ((3 : Nat) : Int)]) (ret_entry rfl _ _ w.heap.size zeroC _ rfl rfl rfl HBz.out) rfl (rEnd_err HE.out HOz.out)
      · have d1 : decide ((t : Int) < 1) = false := by simp; omega
        have d2 : decide ((4611686018427387904 : Int) < (t : Int)) = true := by simp; omega
        have d2n : 4611686018427387904 < t := by omega
        have HE := Lib.hid (HGb.out (fun h => hth h.2))
        clear HGe HGb
        go_enter Try.func89, Try.ntmps89
        go_wp2_with fail
        refine HN.out.mono ?_
        rintro e w2 ⟨rfl, ha, ho⟩
        have HI2 := Lib.hid (HI0.out.call ha ho)
        have HOf := Lib.hid HI2.out.only
        clear ha ho
        go_wp2_with (refine wpList_store_all rfl 87 (.tmp 2) (.tmp 23) rfl w.heap.size #[.int .u64 0, .int .i64 0, .int .u64 0, .int .u64 0, .slice none 0 0, .slice none 0 0] rfl rfl 87 zeroC HI2.out.b2 (by kernel_rfl) rfl (by simp [Value.oneCell']) ?_; intro wz hbz hoz; (have HBz := Lib.hid hbz); (have HOz := Lib.hid (HOf.out.wrote hoz (Nat.le_refl _))); clear hbz hoz)
        exact bodyPost_ret (v := .tuple #[.agg zeroC, .int .i64 ((3 : Nat) : Int)]) (ret_entry rfl _ _ w.heap.size zeroC _ rfl rfl rfl HBz.out) rfl (rEnd_err HE.out HOz.out)
    · have d1 : decide ((t : Int) < 1) = true := by simp; omega
      have HE := Lib.hid (HGb.out (fun h => htl h.1))
      clear HGe HGb
      go_enter Try.func89, Try.ntmps89
      go_wp2_with fail
      refine HN.out.mono ?_
      rintro e w2 ⟨rfl, ha, ho⟩
      have HI2 := Lib.hid (HI0.out.call ha ho)
      have HOf := Lib.hid HI2.out.only
      clear ha ho
      go_wp2_with (refine wpList_store_all rfl 87 (.tmp 2) (.tmp 23) rfl w.heap.size #[.int .u64 0, .int .i64 0, .int .u64 0, .int .u64 0, .slice none 0 0, .slice none 0 0] rfl rfl 87 zeroC HI2.out.b2 (by kernel_rfl) rfl (by simp [Value.oneCell']) ?_; intro wz hbz hoz; (have HBz := Lib.hid hbz); (have HOz := Lib.hid (HOf.out.wrote hoz (Nat.le_refl _))); clear hbz hoz)
      exact bodyPost_ret (v := .tuple #[.agg zeroC, .int .i64 ((3 : Nat) : Int)]) (ret_entry rfl _ _ w.heap.size zeroC _ rfl rfl rfl HBz.out) rfl (rEnd_err HE.out HOz.out)

end Go.Proofs.Ytboongdoggggoaa
