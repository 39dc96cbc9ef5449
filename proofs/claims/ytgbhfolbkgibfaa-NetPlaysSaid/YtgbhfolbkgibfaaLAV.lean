/- Joined: MsgWriterHand, MsgEqual, MsgSame. -/
import Derived.Test.YtgbhfolbkgibfaaLAU
import Derived.Test.YtgbhfolbkgibfaaLAI
import Derived.Test.YtgbhfolbkgibfaaLAS
import Derived.Test.YtgbhfolbkgibfaaLAL
/- Layer 18: the writer is a hand. -/
namespace Go.Proofs.Ytgbhfolbkgibfaa
set_option maxRecDepth 20000
open Go.RowKit Go.Maps BinMath CmdMath Reg
open MsgMath (Mg Hand wrH)

set_option maxHeartbeats 2000000 in
theorem writer_octet {L Bw : Nat} {w : World} {U : Nat → Prop} {l : List UInt8} (c : Nat) (hI : WrI L Bw w U l) (hc : c < 256) (hl : l.length ≤ 1000000000000) :
    Calls Try.prog 82 #[.pointer (some ⟨L, 0, none⟩), .int .u8 (c : Int)] w (HEnd 20000 List.length (WrI L Bw) U l w (wrH.octet c l) isOct) := by
  obtain ⟨v, hb, hrow, hU, hL, hBw⟩ := hI
  have hcv : bv (UInt8.ofNat c) = .int .u8 (c : Int) := by rw [bv_of, Nat.mod_eq_of_lt hc]
  have hl1 := (Below.refl w.heap.size w).alloc (Nat.le_refl _) (.cells #[.int .u8 (c : Int)] 5)
  have hby := byte_bys w (UInt8.ofNat c)
  rw [hcv] at hby
  have A1 := Lib.hid (append_keep (by rw [World.size_alloc]; omega) (hrow.below hl1) hby (by simp only [List.length_cons, List.length_nil]; omega))
  have HB := Lib.hid (hb.alloc (.cells #[.int .u8 (c : Int)] 5))
  have HLv := Lib.hid (show ¬ v.ownBlock = some L from fun e => by have := World.ownsRow.lt hrow L e; omega)
  have HG : Hid (∀ w2 : World, Row w2 Bw v l → OnlyS (fun k => v.ownBlock = some k) (w.alloc (.cells #[.int .u8 (c : Int)] 5)) w2 → WrG L Bw w v l w2) := Lib.hid fun w2 k2 k3 => ⟨(OnlyS.of_below hl1 fun _ hk _ => hk).trans (k3.mono fun _ _ h => h), k2, HB.out.onlyS k3 HLv.out⟩
  have HU := Lib.hid hU
  have HL := Lib.hid hL
  have HBw := Lib.hid hBw
  have HX := Lib.hid hc
  have k0 : (w.alloc (.cells #[.int .u8 (c : Int)] 5)).cell? ⟨L, 0, none⟩ = some v := by rw [HB.out.cell]; rfl
  have kv : w.cell? ⟨L, 0, none⟩ = some v := by rw [hb.cell]; rfl
  have HV : Hid (∃ va vn vc, v = .slice va vn vc) := Lib.hid (by obtain ⟨va, vc, e⟩ := hrow.bys.shape; exact ⟨va, _, vc, e⟩)
  obtain ⟨va, vn, vc, rfl⟩ := HV.out
  clear HV hb hrow hU hL hBw hby hl1 hl hc hcv
  go_enter Try.func82, Try.ntmps82
  go_wp2_with (first
    | (at_builtin; refine wpList_append_by rfl _ _ 34 rfl _ _ rfl rfl _ A1.out ?_; rintro v2 w2 ⟨k1, k2, k3, k4⟩; (have HR := Lib.hid k1); (have HN := Lib.hid k4); (have HG2 := Lib.hid (HG.out w2 k2 k3)); clear k1 k2 k3 k4 k0 kv; (obtain ⟨xa, xc, e2⟩ := HR.out.bys.shape); (obtain ⟨xn, hxn⟩ : ∃ xn, xn = (l ++ [UInt8.ofNat c]).length := ⟨_, rfl⟩); rw [← hxn] at e2; subst e2; clear hxn)
    | (refine wpList_store_fld rfl 34 (.tmp 14) (.tmp 12) rfl L 0 (.slice xa xn xc) rfl rfl 79 #[.slice va vn vc] #[.slice xa xn xc] HG2.out.2.2 (by simp) rfl (by kernel_rfl) rfl ?_; intro w3 hb ho; (have HZ := Lib.hid (HG2.out.next HU.out HL.out HBw.out HR.out (fun k hk => (HN.out k hk).imp id (fun h => by rw [World.size_alloc] at h; omega)) hb ho)); clear hb ho))
  go_ret
  obtain ⟨ho, U', hI', hs⟩ := HZ.out
  exact HEnd.good (D := 20000) (l := l) (val := isOct) (show wrH.octet c l = .ok (c, l ++ [UInt8.ofNat c]) from rfl) ho ⟨rfl, HX.out⟩ hI' hs (by rw [List.length_append]; simp)

/-- A result that is a variable's struct. -/
theorem ret_ent1 {fn : Func} {p : Tmp} (h : fn.results = #[.cell p 62]) (tmps : Array Value) (W : World) (g : Nat) (cs : Array Value) (hs : cs.size = 6) (hp : tmps.getD p undef = .pointer (some ⟨g, 0, none⟩)) (hb : Blk W g 62 cs) :
    (results fn tmps).run Try.prog W = .ok (.agg cs) W := by
  have h6 : (Try.prog.info? 62).map (·.size) = some 6 := by kernel_rfl
  exact results_cell_row h _ _ g 62 cs (0, 0) _ hp hb Try.underlying62 rfl (by rw [hs]; exact h6)

set_option maxHeartbeats 2000000 in
theorem writer_entry {L Bw : Nat} {w : World} {U : Nat → Prop} {l : List UInt8} (X : Nat → Prop) (e : Ent) (x : Value) (hI : WrI L Bw w U l) (hx : isEnt False X 0 e x w U) (hl : l.length ≤ 1000000000000) :
    Calls Try.prog 80 #[.pointer (some ⟨L, 0, none⟩), x] w (HEnd 20000 List.length (WrI L Bw) U l w (wrH.entry e l) (isEnt False X 0)) := by
  obtain ⟨a, ca, b, cb, rfl, hst⟩ := hx
  obtain ⟨w0, hw0⟩ : ∃ w0, w0 = (w.alloc (.cells (entC e a ca b cb) 62)).alloc (.cells zeroC 62) := ⟨_, rfl⟩
  have ho0 : OnlyS (fun _ => False) w w0 := by rw [hw0]; exact ((OnlyS.refl _ _).alloc _).alloc _
  have hb0 : Below w.heap.size w w0 := ho0.below (fun _ _ e => e) (Nat.le_refl _)
  have hI0 := hI.keep ho0 (fun _ _ e => e.elim)
  have hs0 : w0.heap.size = w.heap.size + 2 := by rw [hw0]; simp
  have B1 : Blk w0 w.heap.size 62 (entC e a ca b cb) := by rw [hw0]; exact (Blk.new w _ _).alloc _
  have B2 : Blk w0 (w.heap.size + 1) 62 zeroC := by
    rw [hw0]
    have h := Blk.new (w.alloc (.cells (entC e a ca b cb) 62)) 62 zeroC
    rwa [World.size_alloc] at h
  have hsU : ∀ k, w.heap.size ≤ k → ¬ U k := fun k hk hu => by have := hI.lt k hu; omega
  have HW0 := Lib.hid hw0
  have HS := Lib.hid hst
  have HsU := Lib.hid hsU
  have HL1 := Lib.hid (Blk.loads (P := Try.prog) B1 62 _ Try.underlying62 rfl (by kernel_rfl))
  have HB1 := Lib.hid B1
  have HB2 := Lib.hid B2
  have HI0 := Lib.hid hI0
  have HO0 := Lib.hid ho0
  have HS0 := Lib.hid hs0
  have hhas := hst.now.1.below (Nat.le_refl _) hb0
  clear hw0 ho0 hb0 hI0 B1 B2 hst hI hsU hs0
  by_cases hf : formed e = true
  · have HP := Lib.hid (put_yes e a b ca cb w0 hhas hf)
    have HF := Lib.hid hf
    have hpl := MsgMath.putL_len e hhas.ok hf
    have HPl := Lib.hid hpl
    clear hhas hf
    go_enter Try.func80, Try.ntmps80
    go_upto_region 1 with fail
    have e0 := HW0.out
    simp only [zeroC] at e0
    rw [← e0]
    clear e0 HW0
    go_wp2_with (refine wpList_load_by rfl 62 (.tmp 3) rfl _ _ rfl HL1.out ?_)
    refine HP.out.mono ?_
    rintro r w1 ⟨z, rfl, hz, hb1⟩
    have hI1 := HI0.out.keep (V := fun _ => False) (OnlyS.of_below hb1 fun _ hk _ => hk) (fun _ _ e => e.elim)
    have HO1 := Lib.hid (HO0.out.then (OnlyS.of_below (S := fun _ => False) hb1 fun _ hk _ => hk) (fun _ _ e => e))
    have HC1 := Lib.hid (HB1.out.keep hb1)
    have HC2 := Lib.hid (HB2.out.keep hb1)
    obtain ⟨za, zc, rfl⟩ := hz.bys.shape
    have HT := Lib.hid (writer_text (.slice za (putL e).length zc) (putL e) 128 hI1 (fun W hW => by
      refine (row_to hz fun k hk => ?_).bys
      have h1 := World.ownsRow.lt hz k hk
      exact hW k (Nat.zero_le _) h1.2 (HsU.out k (by have := HS0.out; omega))) (by omega) (by decide) hl)
    obtain ⟨pn, hpn⟩ : ∃ pn, pn = (putL e).length := ⟨_, rfl⟩
    rw [← hpn] at HT ⊢
    clear hz hb1 hI1 hpn hpl
    go_wp2_with fail
    refine (takeRaw_ok (.slice za pn zc) _).mono ?_
    rintro r w2 ⟨rfl, hw2⟩
    rw [hw2]
    clear hw2 w2
    go_wp2_with fail
    refine HT.out.mono ?_
    rintro r w3 (⟨hle, rfl, ho3, U', hI3, hsub⟩ | ⟨hlt, -, -⟩)
    · have HC3 := Lib.hid (HC1.out.onlyS ho3 (HsU.out _ (Nat.le_refl _)))
      have HC4 := Lib.hid (HC2.out.onlyS ho3 (HsU.out _ (Nat.le_succ _)))
      have HL3 := Lib.hid (Blk.loads (P := Try.prog) HC3.out 62 _ Try.underlying62 rfl (by kernel_rfl))
      have HI3 := Lib.hid hI3
      have HO3 := Lib.hid ho3
      have HSub := Lib.hid hsub
      clear hle ho3 hI3 hsub
      go_wp2_with (first
        | (refine wpList_load_by rfl 62 (.tmp 3) rfl _ _ rfl HL3.out ?_)
        | (refine wpList_store_all rfl 62 (.tmp 4) (.tmp 12) rfl (w.heap.size + 1) (entC e a ca b cb) rfl rfl 62 zeroC HC4.out (by kernel_rfl) rfl (by simp [entC, Value.oneCell']) ?_; intro wz hb ho; (have HZ := Lib.hid hb); (have HO := Lib.hid ho); clear hb ho))
      have hU' : ¬ U' (w.heap.size + 1) := fun h => by
        rcases HSub.out _ h with h | h
        · exact HsU.out _ (Nat.le_succ _) h
        · have := HC2.out.lt
          omega
      have hsz1 : w.heap.size ≤ w1.heap.size := HO1.out.size
      have hall : OnlyS U w wz := ((HO1.out.mono (fun _ _ e => e.elim)).trans (HO3.out.mono fun _ _ h => h)).then HO.out (fun k hk e => by have e : k = w.heap.size + 1 := e; omega)
      refine bodyPost_ret (v := .agg (entC e a ca b cb)) (ret_ent1 rfl _ _ (w.heap.size + 1) (entC e a ca b cb) rfl rfl HZ.out) rfl ?_
      refine HEnd.good (D := 20000) (l := l) (val := isEnt False X 0) (show wrH.entry e l = .ok (e, l ++ (numL (putL e).length ++ putL e)) by show (if formed e = true then _ else _) = _; rw [if_pos HF.out, if_pos HPl.out]) hall ⟨a, ca, b, cb, rfl, ?_⟩ (HI3.out.keep HO.out (fun k _ e => by have e : k = w.heap.size + 1 := e; subst e; exact hU')) (fun k hk => (HSub.out k hk).imp id fun h => by omega) ?_
      · exact HS.out.step hall (fun _ _ h => .inl h) (fun k hk h => h.elim (fun h => .inl ((HSub.out k h).resolve_right (by omega))) .inr)
      · have h1 := HPl.out
        have h2 := nb_le (putL e).length (by omega)
        simp only [List.length_append, numL_length]
        omega
    · exact absurd hlt (by have := HPl.out; omega)
  · have HP := Lib.hid (put_no e a b ca cb w0 hhas (by simpa using hf))
    have HE := Lib.hid (show wrH.entry e l = .error 1 by show (if formed e = true then _ else _) = _; rw [if_neg hf])
    clear hhas hf
    go_enter Try.func80, Try.ntmps80
    go_upto_region 1 with fail
    have e0 := HW0.out
    simp only [zeroC] at e0
    rw [← e0]
    clear e0 HW0
    go_wp2_with (refine wpList_load_by rfl 62 (.tmp 3) rfl _ _ rfl HL1.out ?_)
    refine HP.out.mono ?_
    rintro r w1 ⟨rfl, hb1⟩
    have HO1 := Lib.hid ((HO0.out.then (OnlyS.of_below (S := fun _ => False) hb1 fun _ hk _ => hk) (fun _ _ e => e)).mono (S := U) (fun _ _ e => e.elim))
    clear hb1
    go_wp2_with fail
    refine (takeRaw_bad (.slice none 0 0) 1 _ (by decide)).mono ?_
    rintro r w2 ⟨rfl, rfl⟩
    exact ⟨rfl, HEnd.bad HE.out HO1.out (by decide)⟩

/-- The writer is a hand. -/
theorem writer_hand (L Bw : Nat) : HandP wrH 82 (.pointer (some ⟨L, 0, none⟩)) (.pointer (some ⟨L, 0, none⟩)) 82 81 83 80 0 0 List.length (WrI L Bw) False where
  mo := fun k w hk => by obtain ⟨n, rfl⟩ : ∃ n, k = n + 1 := ⟨k - 1, by omega⟩; kernel_rfl
  mn := fun k w hk => by obtain ⟨n, rfl⟩ : ∃ n, k = n + 1 := ⟨k - 1, by omega⟩; kernel_rfl
  mt := fun k w hk => by obtain ⟨n, rfl⟩ : ∃ n, k = n + 1 := ⟨k - 1, by omega⟩; kernel_rfl
  me := fun k w hk => by obtain ⟨n, rfl⟩ : ∃ n, k = n + 1 := ⟨k - 1, by omega⟩; kernel_rfl
  eo := enters _ (by kernel_rfl)
  en := enters _ (by kernel_rfl)
  et := enters _ (by kernel_rfl)
  ee := enters _ (by kernel_rfl)
  lt := fun hI => ⟨fun k hk => hI.lt k hk, Nat.zero_le _, Nat.zero_le _⟩
  keep := fun hI ho hV => hI.keep ho (fun k hk h => (hV k hk h).2)
  octet := fun c hI hc hl => writer_octet c hI hc hl
  number := fun n hI hn hl => writer_number n hI hn hl
  text := fun {w U l} X x b most hI _ hx hm hl => by
    refine (writer_text x b most hI ((hx.1.imp fun _ h => h.1).step (OnlyS.refl (fun _ => False) _) (fun _ _ e => e.elim) (fun _ _ h => .inl h)) hx.2 hm hl).mono ?_
    rintro e w' (⟨hle, rfl, ho, U', hI', hs⟩ | ⟨hlt, rfl, rfl⟩)
    · refine HEnd.good (D := 20000) (l := l) (val := isText False X 0) (show wrH.text most b l = .ok (b, l ++ (numL b.length ++ b)) by show (if b.length ≤ most then _ else _) = _; rw [if_pos hle]) ho ⟨hx.1.step ho (fun _ _ h => .inl h) (fun k hk h => h.elim (fun h => .inl ((hs k h).resolve_right (by omega))) .inr), hx.2⟩ hI' hs ?_
      have h2 := nb_le b.length (by omega)
      simp only [List.length_append, numL_length]
      omega
    · exact HEnd.bad (show wrH.text most b l = .error 4 by show (if b.length ≤ most then _ else _) = _; rw [if_neg (by omega)]) (OnlyS.refl _ _) (by decide)
  entry := fun X e x hI _ hx hl => writer_entry X e x hI hx hl
end Go.Proofs.Ytgbhfolbkgibfaa

/- Layer 18: lists of entries, held against one another by slices.EqualFunc. -/
namespace Go.Proofs.Ytgbhfolbkgibfaa
set_option maxRecDepth 20000
open Go.RowKit BinMath CmdMath

set_option maxHeartbeats 2000000 in
theorem equalFunc_any (va vb : Value) (us vs : List EE) (w : World) (ha : Els w va us) (hb : Els w vb vs) (hha : HasAll w us) (hhb : HasAll w vs) (hl : us.length ≤ 140737488351232) :
    Calls Try.prog 54 #[va, vb, .func (.func 55) #[] #[]] w fun r w' => r = .returned (.bool (decide (us.map EE.e = vs.map EE.e))) ∧ Below w.heap.size w w' := by
  obtain ⟨a, ca, rfl⟩ := ha.form
  obtain ⟨b, cb, rfl⟩ := hb.form
  obtain ⟨n, hn⟩ : ∃ n, n = us.length := ⟨_, rfl⟩
  by_cases hlen : us.length = vs.length
  · have hm : n = vs.length := by omega
    rw [← hn] at ha hl
    rw [← hm] at hb
    rw [← hn, ← hm]
    have HA := Lib.hid ha
    have HB := Lib.hid hb
    have HHA := Lib.hid hha
    have HHB := Lib.hid hhb
    have HN := Lib.hid hn
    have HM := Lib.hid hm
    have HStart := Lib.hid (show ListAt us vs w (.int .i64 0) w from ⟨0, Nat.zero_le _, rfl, rfl, Below.refl _ _⟩)
    clear ha hb hha hhb hn hm hlen
    go_enter Try.func54, Try.ntmps54
    go_wp2
    go_loopw [17] (fun s17 wr => ListAt us vs w s17 wr) (fun s17 _ => n - (intOf s17).toNat)
    case atStart => exact HStart.out
    case round =>
      obtain ⟨i, hi, rfl, he, hbw⟩ := hrel
      have hin : i ≤ n := by have := HN.out; omega
      have HBw := Lib.hid hbw
      have HE := Lib.hid he
      clear hi he hbw HStart
      by_cases hlt : i < n
      · obtain ⟨x, hx⟩ : ∃ x, us[i]? = some x := ⟨us[i]'(by have := HN.out; omega), List.getElem?_eq_getElem _⟩
        obtain ⟨y, hy⟩ : ∃ y, vs[i]? = some y := ⟨vs[i]'(by have := HM.out; omega), List.getElem?_eq_getElem _⟩
        obtain ⟨ad, rfl, hca⟩ := (HA.out.below (Nat.le_refl _) HBw.out).load hx
        obtain ⟨bd, rfl, hcb⟩ := (HB.out.below (Nat.le_refl _) HBw.out).load hy
        have LX := Lib.hid (load_ent wr (ad.add (i * 6)) x hca)
        have LY := Lib.hid (fun W (hW : Below wr.heap.size wr W) => load_ent W (bd.add (i * 6)) y fun j v hj => by
          have h1 := hcb j v hj
          rw [hW.cell (p := (bd.add (i * 6)).add j) (World.block_lt_of_cell? wr _ h1)]
          exact h1)
        have EX := Lib.hid ((HHA.out x (List.mem_of_getElem? hx)).below (Nat.le_refl _) HBw.out)
        have EY := Lib.hid ((HHB.out y (List.mem_of_getElem? hy)).below (Nat.le_refl _) HBw.out)
        have HX := Lib.hid hx
        have HY := Lib.hid hy
        have hixa := fun W => ix_ent W ad n ca i hlt
        have hixb := fun W => ix_ent W bd n cb i hlt
        clear hca hcb hx hy
        go_upto_region 7 with (first
          | (refine wpList_load_by rfl 62 (.tmp 20) rfl _ (.agg (entC x.e x.a x.ca x.b x.cb)) rfl LX.out ?_)
          | (refine wpList_store_all rfl 62 (.tmp 8) (.tmp 21) rfl wr.heap.size (entC x.e x.a x.ca x.b x.cb) rfl rfl 62 zeroC (Blk.new wr 62 zeroC) (by kernel_rfl) rfl (by simp [entC, Value.oneCell']) ?_; intro w3 hb hos; (have HB3 := Lib.hid hb); (have HW3 := Lib.hid (show Below wr.heap.size wr w3 from ((Below.refl _ _).alloc (Nat.le_refl _) _).trans (hos.below (fun k hk e => by have e : k = wr.heap.size := e; omega) (by simp)))); clear hb hos)
          | (refine wpList_load_by rfl 62 (.tmp 24) rfl _ (.agg (entC y.e y.a y.ca y.b y.cb)) rfl (LY.out w3 HW3.out) ?_)
          | (refine wpList_store_all rfl 62 (.tmp 9) (.tmp 25) rfl w3.heap.size (entC y.e y.a y.ca y.b y.cb) rfl rfl 62 zeroC (Blk.new w3 62 zeroC) (by kernel_rfl) rfl (by simp [entC, Value.oneCell']) ?_; intro w4 hb hos; (have HB4 := Lib.hid hb); (have HW4 := Lib.hid (show Below w3.heap.size w3 w4 from ((Below.refl _ _).alloc (Nat.le_refl _) _).trans (hos.below (fun k hk e => by have e : k = w3.heap.size := e; omega) (by simp)))); clear hb hos))
        have HWr := Lib.hid (show Below wr.heap.size wr w4 from HW3.out.trans (HW4.out.mono HW3.out.size))
        obtain ⟨E1, hE1⟩ : ∃ E, E = wr.heap.size := ⟨_, rfl⟩
        obtain ⟨E2, hE2⟩ : ∃ E, E = w3.heap.size := ⟨_, rfl⟩
        rw [← hE1] at HB3
        rw [← hE2] at HB4
        rw [← hE1, ← hE2]
        have HL8 := Lib.hid (Blk.loads (P := Try.prog) (HB3.out.keep HW4.out) 62 _ Try.underlying62 rfl (by kernel_rfl))
        have HL9 := Lib.hid (Blk.loads (P := Try.prog) HB4.out 62 _ Try.underlying62 rfl (by kernel_rfl))
        have HC := Lib.hid (same_any x.e y.e x.a x.b y.a y.b x.ca x.cb y.ca y.cb w4 (EX.out.below (Nat.le_refl _) HWr.out) (EY.out.below (Nat.le_refl _) HWr.out))
        clear hE1 hE2 hixa hixb LX LY HB3 HB4 HW3 HW4
        go_wp2_with (first
          | (refine wpList_load_by rfl 62 (.tmp 8) rfl _ (.agg (entC x.e x.a x.ca x.b x.cb)) rfl HL8.out ?_)
          | (refine wpList_load_by rfl 62 (.tmp 9) rfl _ (.agg (entC y.e y.a y.ca y.b y.cb)) rfl HL9.out ?_))
        refine HC.out.mono ?_
        rintro r w5 ⟨rfl, hb5⟩
        have HW5 := Lib.hid (HBw.out.trans ((HWr.out.trans (hb5.mono HWr.out.size)).mono HBw.out.size))
        clear hb5 HC HL8 HL9 HWr
        by_cases hxy : x.e = y.e
        · rw [decide_eq_true hxy]
          have HNext := Lib.hid (⟨i + 1, by have := HN.out; omega, rfl, entsTo_next HE.out HX.out HY.out hxy, HW5.out⟩ : ListAt us vs w (.int .i64 ((i + 1 : Nat) : Int)) w5)
          clear hxy EX EY HX HY
          go_wp2
          go_roundw
          case rel => exact HNext.out
          case measure => simp [intOf]; omega
        · rw [decide_eq_false hxy]
          have HF := Lib.hid (show us.map EE.e ≠ vs.map EE.e from fun h => hxy (by
            have h1 : (us.map EE.e)[i]? = some x.e := by rw [List.getElem?_map, HX.out]; rfl
            have h2 : (vs.map EE.e)[i]? = some y.e := by rw [List.getElem?_map, HY.out]; rfl
            rw [h, h2] at h1
            exact (Option.some.inj h1).symm))
          clear hxy EX EY HX HY
          go_wp2
          go_ret
          exact ⟨by rw [decide_eq_false HF.out]; rfl, HW5.out⟩
      · obtain rfl : i = n := by omega
        have HT := Lib.hid (show us.map EE.e = vs.map EE.e by
          have h := HE.out
          unfold entsTo at h
          rwa [List.take_of_length_le (by have := HN.out; omega), List.take_of_length_le (by have := HM.out; omega)] at h)
        go_wp2
        go_ret
        exact ⟨by rw [decide_eq_true HT.out]; rfl, HBw.out⟩
  · have HF := Lib.hid (show us.map EE.e ≠ vs.map EE.e from fun h => hlen (by have := congrArg List.length h; simpa using this))
    have q : ((us.length : Int) != (vs.length : Int)) = true := by simpa using fun h : (us.length : Int) = (vs.length : Int) => hlen (by omega)
    clear ha hb hha hhb hn hlen
    go_enter Try.func54, Try.ntmps54
    go_wp2
    go_ret
    exact ⟨by rw [decide_eq_false HF.out]; rfl, Below.refl _ _⟩
end Go.Proofs.Ytgbhfolbkgibfaa

/- Layer 18: Same. -/
namespace Go.Proofs.Ytgbhfolbkgibfaa
set_option maxRecDepth 20000
open Go.RowKit BinMath CmdMath
open MsgMath (Mg)

set_option maxHeartbeats 4000000 in
theorem msgSame_any (M Q : Mg) (ve vm vg ve' vm' vg' : Value) (us vs : List EE) (w : World) (hM : MHas w M ve vm vg us) (hQ : MHas w Q ve' vm' vg' vs) :
    Calls Try.prog 38 #[.agg (mgC M ve vm vg), .agg (mgC Q ve' vm' vg')] w fun r w' => r = .returned (.bool (decide (M = Q))) ∧ Below w.heap.size w w' := by
  obtain ⟨-, hel, hal, hen, hnm, hbg, hul, hml, hgl⟩ := hM
  obtain ⟨a, ca, rfl⟩ := hel.form
  obtain ⟨b, cb, rfl⟩ := hnm.shape
  obtain ⟨d, cd, rfl⟩ := hbg.shape
  obtain ⟨k, f, o, t, i, l, c, s, y, e, m, g⟩ := M
  obtain ⟨na, hna⟩ : ∃ n, n = us.length := ⟨_, rfl⟩
  obtain ⟨nb, hnb⟩ : ∃ n, n = m.length := ⟨_, rfl⟩
  obtain ⟨nd, hnd⟩ : ∃ n, n = g.length := ⟨_, rfl⟩
  simp only [mgC] at hen hnm hbg hml hgl ⊢
  rw [← hna] at hel
  rw [← hnb] at hnm
  rw [← hnd] at hbg
  rw [← hna, ← hnb, ← hnd]
  clear hna hnb hnd
  obtain ⟨-, hel', hal', hen', hnm', hbg', hul', hml', hgl'⟩ := hQ
  obtain ⟨a', ca', rfl⟩ := hel'.form
  obtain ⟨b', cb', rfl⟩ := hnm'.shape
  obtain ⟨d', cd', rfl⟩ := hbg'.shape
  obtain ⟨k', f', o', t', i', l', c', s', y', e', m', g'⟩ := Q
  obtain ⟨na', hna'⟩ : ∃ n, n = vs.length := ⟨_, rfl⟩
  obtain ⟨nb', hnb'⟩ : ∃ n, n = m'.length := ⟨_, rfl⟩
  obtain ⟨nd', hnd'⟩ : ∃ n, n = g'.length := ⟨_, rfl⟩
  dsimp only at hen' hnm' hbg' hml' hgl' ⊢
  rw [← hna'] at hel'
  rw [← hnb'] at hnm'
  rw [← hnd'] at hbg'
  rw [← hna', ← hnb', ← hnd']
  clear hna' hnb' hnd'
  obtain ⟨w1, hw1⟩ : ∃ w1, w1 = (w.alloc (.cells #[.int .i64 k, .int .u64 (f : Int), .int .u64 (o : Int), .int .u64 (t : Int), .int .u64 (i : Int), .int .u64 (l : Int), .int .u64 (c : Int), .int .u64 (s : Int), .bool y, .slice a na ca, .slice b nb cb, .slice d nd cd] 36)).alloc (.cells #[.int .i64 k', .int .u64 (f' : Int), .int .u64 (o' : Int), .int .u64 (t' : Int), .int .u64 (i' : Int), .int .u64 (l' : Int), .int .u64 (c' : Int), .int .u64 (s' : Int), .bool y', .slice a' na' ca', .slice b' nb' cb', .slice d' nd' cd'] 36) := ⟨_, rfl⟩
  have hb1 : Below w.heap.size w w1 := by rw [hw1]; exact boxes w _ _ _
  have HB := Lib.hid hb1
  have hs1 : w1.heap.size = w.heap.size + 2 := by rw [hw1]; simp
  have hls := equalFunc_any _ _ us vs w1 (hel.below (Nat.le_refl _) hb1) (hel'.below (Nat.le_refl _) hb1) (hal.below (Nat.le_refl _) hb1) (hal'.below (Nat.le_refl _) hb1) hul
  have hn := fun (W : World) (hW : Below w1.heap.size w1 W) => eqNums_any _ _ m m' W ((hnm.below (Nat.le_refl _) hb1).below (Nat.le_refl _) hW) ((hnm'.below (Nat.le_refl _) hb1).below (Nat.le_refl _) hW) hml
  have hq := fun (W : World) (hW : Below w1.heap.size w1 W) => equal_any (.slice d nd cd) (.slice d' nd' cd') g g' W ((hbg.below (Nat.le_refl _) hb1).below (Nat.le_refl _) hW) ((hbg'.below (Nat.le_refl _) hb1).below (Nat.le_refl _) hW)
  have K1 : Blk w1 w.heap.size 36 #[.int .i64 k, .int .u64 (f : Int), .int .u64 (o : Int), .int .u64 (t : Int), .int .u64 (i : Int), .int .u64 (l : Int), .int .u64 (c : Int), .int .u64 (s : Int), .bool y, .slice a na ca, .slice b nb cb, .slice d nd cd] := by rw [hw1]; exact Blk.keep (Blk.new w _ _) ((Below.refl _ _).alloc (Nat.le_refl _) _)
  have K2 : Blk w1 (w.heap.size + 1) 36 #[.int .i64 k', .int .u64 (f' : Int), .int .u64 (o' : Int), .int .u64 (t' : Int), .int .u64 (i' : Int), .int .u64 (l' : Int), .int .u64 (c' : Int), .int .u64 (s' : Int), .bool y', .slice a' na' ca', .slice b' nb' cb', .slice d' nd' cd'] := by rw [hw1]; have h := Blk.new (w.alloc (.cells #[.int .i64 k, .int .u64 (f : Int), .int .u64 (o : Int), .int .u64 (t : Int), .int .u64 (i : Int), .int .u64 (l : Int), .int .u64 (c : Int), .int .u64 (s : Int), .bool y, .slice a na ca, .slice b nb cb, .slice d nd cd] 36)) 36 #[.int .i64 k', .int .u64 (f' : Int), .int .u64 (o' : Int), .int .u64 (t' : Int), .int .u64 (i' : Int), .int .u64 (l' : Int), .int .u64 (c' : Int), .int .u64 (s' : Int), .bool y', .slice a' na' ca', .slice b' nb' cb', .slice d' nd' cd']; rwa [World.size_alloc] at h
  have K10 : Hid (w1.cell? ⟨w.heap.size, 10, none⟩ = some (.slice b nb cb)) := Lib.hid (by rw [K1.cell]; rfl)
  have K11 : Hid (w1.cell? ⟨w.heap.size, 11, none⟩ = some (.slice d nd cd)) := Lib.hid (by rw [K1.cell]; rfl)
  have L10 : Hid (w1.cell? ⟨w.heap.size + 1, 10, none⟩ = some (.slice b' nb' cb')) := Lib.hid (by rw [K2.cell]; rfl)
  have L11 : Hid (w1.cell? ⟨w.heap.size + 1, 11, none⟩ = some (.slice d' nd' cd')) := Lib.hid (by rw [K2.cell]; rfl)
  have HS1 := Lib.hid hs1
  clear hel hel' hal hal' hnm hnm' hbg hbg' hul hul' hml hml' hgl hgl' hb1 K1 K2 hs1
  subst hw1
  by_cases hk : k = k'
  · subst hk
    by_cases hf : f = f'
    · subst hf
      by_cases ho : o = o'
      · subst ho
        by_cases ht : t = t'
        · subst ht
          by_cases hi : i = i'
          · subst hi
            by_cases hl : l = l'
            · subst hl
              by_cases hc : c = c'
              · subst hc
                by_cases hs : s = s'
                · subst hs
                  by_cases hy : y = y'
                  · subst hy
                    have HLs := hls
                    by_cases he : e = e'
                    · subst he
                      rw [decide_eq_true (show us.map EE.e = vs.map EE.e by rw [hen, hen'])] at HLs
                      have HL := Lib.hid HLs
                      clear HLs hls hen hen'
                      by_cases hm : m = m'
                      · subst hm
                        by_cases hg : g = g'
                        · have HG := Lib.hid hg
                          have HM := Lib.hid (rfl : m = m)
                          clear hg
                          go_enter Try.func38, Try.ntmps38
                          go_wp2_with fail
                          refine HL.out.mono ?_
                          rintro r w2 ⟨rfl, hb2⟩
                          have ka10 : w2.cell? ⟨w.heap.size, 10, none⟩ = some (.slice b nb cb) := by rw [hb2.cell (p := ⟨w.heap.size, 10, none⟩) (by simp; omega)]; exact K10.out
                          have kb10 : w2.cell? ⟨w.heap.size + 1, 10, none⟩ = some (.slice b' nb' cb') := by rw [hb2.cell (p := ⟨w.heap.size + 1, 10, none⟩) (by simp)]; exact L10.out
                          have ka11 : w2.cell? ⟨w.heap.size, 11, none⟩ = some (.slice d nd cd) := by rw [hb2.cell (p := ⟨w.heap.size, 11, none⟩) (by simp; omega)]; exact K11.out
                          have kb11 : w2.cell? ⟨w.heap.size + 1, 11, none⟩ = some (.slice d' nd' cd') := by rw [hb2.cell (p := ⟨w.heap.size + 1, 11, none⟩) (by simp)]; exact L11.out
                          have HB2 := Lib.hid (HB.out.trans (hb2.mono HB.out.size))
                          have HN := Lib.hid (hn w2 hb2)
                          have HQ := Lib.hid (fun nq => hq _ (below_drewN hb2 nq))
                          clear hb2 hn hq
                          rw [decide_eq_true HM.out] at HN
                          go_wp2_with fail
                          refine HN.out.mono ?_
                          rintro r w3 ⟨rfl, nq, rfl⟩
                          go_wp2_with fail
                          refine (HQ.out nq).mono ?_
                          rintro r w4 ⟨rfl, rfl⟩
                          rw [decide_eq_true HG.out]
                          go_wp2
                          go_ret
                          exact ⟨congrArg (fun b => Ending.returned (Value.bool b)) (decide_eq_true (by rw [HG.out])).symm, below_drewN HB2.out nq⟩
                        · rw [decide_eq_false (show ¬ ((⟨k, f, o, t, i, l, c, s, y, e, m, g⟩ : Mg) = ⟨k, f, o, t, i, l, c, s, y, e, m, g'⟩) from fun h => hg (by injection h))]
                          have HG := Lib.hid hg
                          have HM := Lib.hid (rfl : m = m)
                          clear hg
                          go_enter Try.func38, Try.ntmps38
                          go_wp2_with fail
                          refine HL.out.mono ?_
                          rintro r w2 ⟨rfl, hb2⟩
                          have ka10 : w2.cell? ⟨w.heap.size, 10, none⟩ = some (.slice b nb cb) := by rw [hb2.cell (p := ⟨w.heap.size, 10, none⟩) (by simp; omega)]; exact K10.out
                          have kb10 : w2.cell? ⟨w.heap.size + 1, 10, none⟩ = some (.slice b' nb' cb') := by rw [hb2.cell (p := ⟨w.heap.size + 1, 10, none⟩) (by simp)]; exact L10.out
                          have ka11 : w2.cell? ⟨w.heap.size, 11, none⟩ = some (.slice d nd cd) := by rw [hb2.cell (p := ⟨w.heap.size, 11, none⟩) (by simp; omega)]; exact K11.out
                          have kb11 : w2.cell? ⟨w.heap.size + 1, 11, none⟩ = some (.slice d' nd' cd') := by rw [hb2.cell (p := ⟨w.heap.size + 1, 11, none⟩) (by simp)]; exact L11.out
                          have HB2 := Lib.hid (HB.out.trans (hb2.mono HB.out.size))
                          have HN := Lib.hid (hn w2 hb2)
                          have HQ := Lib.hid (fun nq => hq _ (below_drewN hb2 nq))
                          clear hb2 hn hq
                          rw [decide_eq_true HM.out] at HN
                          go_wp2_with fail
                          refine HN.out.mono ?_
                          rintro r w3 ⟨rfl, nq, rfl⟩
                          go_wp2_with fail
                          refine (HQ.out nq).mono ?_
                          rintro r w4 ⟨rfl, rfl⟩
                          rw [decide_eq_false HG.out]
                          go_wp2
                          go_ret
                          exact ⟨rfl, below_drewN HB2.out nq⟩
                      · rw [decide_eq_false (show ¬ ((⟨k, f, o, t, i, l, c, s, y, e, m, g⟩ : Mg) = ⟨k, f, o, t, i, l, c, s, y, e, m', g'⟩) from fun h => hm (by injection h))]
                        have HM := Lib.hid hm
                        clear hm
                        go_enter Try.func38, Try.ntmps38
                        go_wp2_with fail
                        refine HL.out.mono ?_
                        rintro r w2 ⟨rfl, hb2⟩
                        have ka10 : w2.cell? ⟨w.heap.size, 10, none⟩ = some (.slice b nb cb) := by rw [hb2.cell (p := ⟨w.heap.size, 10, none⟩) (by simp; omega)]; exact K10.out
                        have kb10 : w2.cell? ⟨w.heap.size + 1, 10, none⟩ = some (.slice b' nb' cb') := by rw [hb2.cell (p := ⟨w.heap.size + 1, 10, none⟩) (by simp)]; exact L10.out
                        have ka11 : w2.cell? ⟨w.heap.size, 11, none⟩ = some (.slice d nd cd) := by rw [hb2.cell (p := ⟨w.heap.size, 11, none⟩) (by simp; omega)]; exact K11.out
                        have kb11 : w2.cell? ⟨w.heap.size + 1, 11, none⟩ = some (.slice d' nd' cd') := by rw [hb2.cell (p := ⟨w.heap.size + 1, 11, none⟩) (by simp)]; exact L11.out
                        have HB2 := Lib.hid (HB.out.trans (hb2.mono HB.out.size))
                        have HN := Lib.hid (hn w2 hb2)
                        clear hb2 hn hq
                        rw [decide_eq_false HM.out] at HN
                        go_wp2_with fail
                        refine HN.out.mono ?_
                        rintro r w3 ⟨rfl, nq, rfl⟩
                        go_wp2
                        go_ret
                        exact ⟨rfl, below_drewN HB2.out nq⟩
                    · rw [decide_eq_false (show ¬ ((⟨k, f, o, t, i, l, c, s, y, e, m, g⟩ : Mg) = ⟨k, f, o, t, i, l, c, s, y, e', m', g'⟩) from fun h => he (by injection h))]
                      rw [decide_eq_false (show ¬ us.map EE.e = vs.map EE.e by rw [hen, hen']; exact he)] at HLs
                      have HL := Lib.hid HLs
                      clear HLs hls hen hen' he hn hq
                      go_enter Try.func38, Try.ntmps38
                      go_wp2_with fail
                      refine HL.out.mono ?_
                      rintro r w2 ⟨rfl, hb2⟩
                      have HB2 := Lib.hid (HB.out.trans (hb2.mono HB.out.size))
                      clear hb2
                      go_wp2
                      go_ret
                      exact ⟨rfl, HB2.out⟩
                  · have q : (y == y') = false := by simpa using hy
                    rw [decide_eq_false (show ¬ ((⟨k, f, o, t, i, l, c, s, y, e, m, g⟩ : Mg) = ⟨k, f, o, t, i, l, c, s, y', e', m', g'⟩) from fun h => hy (by injection h))]
                    clear hy
                    go_enter Try.func38, Try.ntmps38
                    go_wp2
                    go_ret
                    exact ⟨rfl, HB.out⟩
                · have q : ((s : Int) == (s' : Int)) = false := beq_false_of_ne (by omega)
                  rw [decide_eq_false (show ¬ ((⟨k, f, o, t, i, l, c, s, y, e, m, g⟩ : Mg) = ⟨k, f, o, t, i, l, c, s', y', e', m', g'⟩) from fun h => hs (by injection h))]
                  clear hs
                  go_enter Try.func38, Try.ntmps38
                  go_wp2
                  go_ret
                  exact ⟨rfl, HB.out⟩
              · have q : ((c : Int) == (c' : Int)) = false := beq_false_of_ne (by omega)
                rw [decide_eq_false (show ¬ ((⟨k, f, o, t, i, l, c, s, y, e, m, g⟩ : Mg) = ⟨k, f, o, t, i, l, c', s', y', e', m', g'⟩) from fun h => hc (by injection h))]
                clear hc
                go_enter Try.func38, Try.ntmps38
                go_wp2
                go_ret
                exact ⟨rfl, HB.out⟩
            · have q : ((l : Int) == (l' : Int)) = false := beq_false_of_ne (by omega)
              rw [decide_eq_false (show ¬ ((⟨k, f, o, t, i, l, c, s, y, e, m, g⟩ : Mg) = ⟨k, f, o, t, i, l', c', s', y', e', m', g'⟩) from fun h => hl (by injection h))]
              clear hl
              go_enter Try.func38, Try.ntmps38
              go_wp2
              go_ret
              exact ⟨rfl, HB.out⟩
          · have q : ((i : Int) == (i' : Int)) = false := beq_false_of_ne (by omega)
            rw [decide_eq_false (show ¬ ((⟨k, f, o, t, i, l, c, s, y, e, m, g⟩ : Mg) = ⟨k, f, o, t, i', l', c', s', y', e', m', g'⟩) from fun h => hi (by injection h))]
            clear hi
            go_enter Try.func38, Try.ntmps38
            go_wp2
            go_ret
            exact ⟨rfl, HB.out⟩
        · have q : ((t : Int) == (t' : Int)) = false := beq_false_of_ne (by omega)
          rw [decide_eq_false (show ¬ ((⟨k, f, o, t, i, l, c, s, y, e, m, g⟩ : Mg) = ⟨k, f, o, t', i', l', c', s', y', e', m', g'⟩) from fun h => ht (by injection h))]
          clear ht
          go_enter Try.func38, Try.ntmps38
          go_wp2
          go_ret
          exact ⟨rfl, HB.out⟩
      · have q : ((o : Int) == (o' : Int)) = false := beq_false_of_ne (by omega)
        rw [decide_eq_false (show ¬ ((⟨k, f, o, t, i, l, c, s, y, e, m, g⟩ : Mg) = ⟨k, f, o', t', i', l', c', s', y', e', m', g'⟩) from fun h => ho (by injection h))]
        clear ho
        go_enter Try.func38, Try.ntmps38
        go_wp2
        go_ret
        exact ⟨rfl, HB.out⟩
    · have q : ((f : Int) == (f' : Int)) = false := beq_false_of_ne (by omega)
      rw [decide_eq_false (show ¬ ((⟨k, f, o, t, i, l, c, s, y, e, m, g⟩ : Mg) = ⟨k, f', o', t', i', l', c', s', y', e', m', g'⟩) from fun h => hf (by injection h))]
      clear hf
      go_enter Try.func38, Try.ntmps38
      go_wp2
      go_ret
      exact ⟨rfl, HB.out⟩
  · have q : (k == k') = false := beq_false_of_ne (by omega)
    rw [decide_eq_false (show ¬ ((⟨k, f, o, t, i, l, c, s, y, e, m, g⟩ : Mg) = ⟨k', f', o', t', i', l', c', s', y', e', m', g'⟩) from fun h => hk (by injection h))]
    clear hk
    go_enter Try.func38, Try.ntmps38
    go_wp2
    go_ret
    exact ⟨rfl, HB.out⟩
end Go.Proofs.Ytgbhfolbkgibfaa

