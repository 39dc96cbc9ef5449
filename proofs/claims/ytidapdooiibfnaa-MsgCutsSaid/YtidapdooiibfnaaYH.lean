/- Joined: MsgLays, MsgReads, MsgBack, MsgCuts, MsgSames, MsgOpen, MsgLast. -/
import Derived.Test.YtidapdooiibfnaaYG
import Derived.Test.YtidapdooiibfnaaYD
import Derived.Test.YtidapdooiibfnaaHK
import Derived.Deep.Slices
import Derived.OpenShut
import Derived.SizedLaws
/- The law MsgLays, walked. -/
namespace Go.Proofs.Ytidapdooiibfnaa
set_option maxRecDepth 20000
open Go.RowKit BinMath CmdMath Reg
open MsgMath (Mg getM putM formedM)

end Go.Proofs.Ytidapdooiibfnaa

/- The law MsgReads, walked. -/
namespace Go.Proofs.Ytidapdooiibfnaa
set_option maxRecDepth 20000
open Go.RowKit BinMath CmdMath
open MsgMath (Mg getM)

set_option maxHeartbeats 4000000 in
set_option maxRecDepth 100000 in
theorem msg_reads_all (hp : MsgProg) (w : World) (a : Option Addr) (len cap : Nat) (zs : List Int) (hz : IsRow .u8 w a len cap zs) (hs : cap * 1 ≤ 140737488351232) :
    Calls Try.prog 4 #[.slice a len cap] w fun e w' => e = .returned (.bool true) ∧ Below w.heap.size w w' := by
  obtain ⟨l, hlen, hv⟩ := hz.bys
  have hlc := hz.le
  have hll : l.length ≤ 140737488351232 := by omega
  obtain ⟨x, c, hxc⟩ : ∃ x c, getM l = (x, c) := ⟨_, _, rfl⟩
  have HV := Lib.hid hv
  have HXC := Lib.hid hxc
  have HN5 := Lib.hid hlen.symm
  have hn5b : len ≤ 140737488351232 := by omega
  clear hv hz hs hxc hlen
  go_enter Try.func4, Try.ntmps4
  go_wp2_with fail
  refine (wake18_any hp _).mono ?_
  rintro e w1 ⟨rfl, hb1⟩
  have HV1 := Lib.hid (HV.out.below (Nat.le_refl _) hb1)
  have B1 := Lib.hid hb1
  clear hb1
  have A1 := Lib.hid (append_lit (B := w1.heap.size) (g := w1.heap.size) (w := w1.alloc (.cells #[] 5)) (Nat.le_refl _) (heap_alloc_new w1 _) (HV1.out.below (Nat.le_refl _) ((Below.refl _ w1).alloc (Nat.le_refl _) _)) (by have := HN5.out; omega))
  go_wp2_with (at_builtin; refine wpList_append_by rfl (.tmp 11) (.tmp 12) 25 rfl _ _ rfl rfl _ A1.out ?_; rintro v5 w2 ⟨hr5, hb2⟩; (obtain ⟨a5, c5, rfl, hlc5⟩ : ∃ a c, v5 = .slice a len c ∧ len ≤ c := by rw [HN5.out]; exact row_cap hr5); (have HR5 := Lib.hid hr5); (have HG5 := Lib.hid (hp.get_is HXC.out hr5.bys hll hlc5)); (have hs12 : w1.heap.size + 1 ≤ w2.heap.size := by have := hb2.size; rw [World.size_alloc] at this; omega); (have B2 := Lib.hid (B1.out.trans (((Below.refl _ w1).alloc (Nat.le_refl _) (.cells #[] 5)).trans (hb2.mono (by rw [World.size_alloc]; omega)) |>.mono B1.out.size))); clear hr5 hb2)
  refine HG5.out.mono ?_
  rintro e w3 ⟨vex, vmx, vgx, usx, rfl, hm, hb3⟩
  have HM3 := Lib.hid hm
  have HB3 := Lib.hid (B2.out.trans (hb3.mono B2.out.size))
  have HR3 := Lib.hid (HR5.out.below hb3)
  have H52 := Lib.hid (show ∀ g, a5 = some ⟨g, 0, none⟩ → w1.heap.size ≤ g ∧ g < w2.heap.size from fun g hg => HR5.out.lt g (by rw [hg]; rfl))
  have hs23 : w2.heap.size ≤ w3.heap.size := hb3.size
  have hs01 : w.heap.size ≤ w1.heap.size := B1.out.size
  clear hm hb3 A1 HG5 HR5
  go_wp2_with (refine wpList_store_all rfl 27 (.tmp 4) (.tmp 17) rfl w3.heap.size (mgC x vex vmx vgx) rfl rfl 27 zeroM (Blk.new w3 _ _) (mgC_info _ _ _ _) rfl (mgC_one HM3.out.has) ?_; intro w4 hb hos; (have HE4 := Lib.hid hb); (have HB4 := Lib.hid (below_two (HB3.out.alloc HB3.out.size (.cells zeroM 27)) hos (fun k hk e => by omega) (by rw [World.size_alloc]; omega))); (have HM4 := Lib.hid (HM3.out.below (below_two ((Below.refl w3.heap.size w3).alloc (Nat.le_refl _) (.cells zeroM 27)) hos (fun k hk e => by omega) (by rw [World.size_alloc]; omega)))); (have HR4 := Lib.hid (HR3.out.below (below_two ((Below.refl w3.heap.size w3).alloc (Nat.le_refl _) (.cells zeroM 27)) hos (fun k hk e => by omega) (by rw [World.size_alloc]; omega)))); (have hs34 : w3.heap.size + 1 ≤ w4.heap.size := by have := hos.size; rw [World.size_alloc] at this; omega); clear hb hos)
  obtain ⟨g4, hg4⟩ : ∃ g4, g4 = w3.heap.size := ⟨_, rfl⟩
  rw [← hg4] at HE4 hs34 hs23 ⊢
  clear hg4
  go_loopw [6] (fun s6 wr => ∃ i : Nat, i ≤ len ∧ s6 = .int .i64 (i : Int) ∧ (∃ l', l'.length = len ∧ Row wr w1.heap.size (.slice a5 len c5) l') ∧ OnlyS (fun b => a5 = some ⟨b, 0, none⟩) w4 wr) (fun s6 _ => len - (intOf s6).toNat)
  case atStart =>
    refine ⟨0, Nat.zero_le _, rfl, ⟨l, HN5.out.symm, ?_⟩, OnlyS.refl _ _⟩
    exact HR4.out
  case round =>
    obtain ⟨i, hi, rfl, ⟨l', hl', hrow⟩, hon⟩ := hrel
    by_cases hin : i < len
    · have hin' : (i : Int) < (len : Int) := by omega
      obtain ⟨g, c', e, hBg, hgs, -⟩ := hrow.shape (by intro h; subst h; simp at hl'; omega)
      rw [hl'] at e
      cases e
      obtain ⟨⟨z, hc⟩, hf⟩ := row_cell hrow i (by omega)
      have HRow := Lib.hid hrow
      have HOn := Lib.hid hon
      have HL' := Lib.hid hl'
      clear hrow hon hl'
      go_wp2
      go_roundw
      case rel =>
        obtain ⟨b, hb⟩ := u8_wrap (z + 1)
        refine ⟨i + 1, by omega, by go_num, ⟨l'.set i b, by rw [List.length_set, HL'.out], ?_⟩, HOn.out.setCell (fun _ => rfl) _⟩
        have h := row_set HRow.out i b
        rw [← hb] at h
        exact h
      case measure => simp [intOf]; omega
    · have hin' : ¬ ((i : Int) < (len : Int)) := by omega
      have hbo : Below w.heap.size w wr := HB4.out.trans (hon.below (fun g h1 h2 => by have := (H52.out g h2).1; omega) (by omega))
      have HE5 := Lib.hid (HE4.out.onlyS hon (fun h => by have := (H52.out g4 h).2; omega))
      have HM5 := Lib.hid (HM4.out.to hon.size (fun k h1 h2 => hon.block k h2 fun h => by have := (H52.out k h).2; omega))
      have HB5 := Lib.hid hbo
      have HF := Lib.hid (refMsgGet_is HXC.out (HV.out.below (Nat.le_refl _) hbo) hll hlc)
      have hs45 : w4.heap.size ≤ wr.heap.size := hon.size
      clear hrow hon hbo hl'
      go_wp2_with fail
      refine HF.out.mono ?_
      rintro e w6 ⟨vey, vmy, vgy, usy, rfl, hm, hb6⟩
      have HM6 := Lib.hid hm.has
      have HN6 := Lib.hid (HM5.out.below hb6).has
      have HE6 := Lib.hid (HE5.out.keep hb6)
      have HB6 := Lib.hid (HB5.out.trans (hb6.mono HB5.out.size))
      have hs56 : wr.heap.size ≤ w6.heap.size := hb6.size
      clear hm hb6 HF
      have hcc : ((c : Int) == (c : Int)) = true := beq_self_eq_true _
      go_wp2_with (first | (refine wpList_store_all rfl 27 (.tmp 7) (.tmp 34) rfl w6.heap.size (mgC x vey vmy vgy) rfl rfl 27 zeroM (Blk.new w6 _ _) (mgC_info _ _ _ _) rfl (mgC_one HM6.out) ?_; intro w7 hb hos; (have HE7 := Lib.hid ((HE6.out.alloc (.cells zeroM 27)).onlyS hos (by omega))); (have HF7 := Lib.hid hb); (have hb7 := below_two ((Below.refl w6.heap.size w6).alloc (Nat.le_refl _) (.cells zeroM 27)) hos (fun k hk e => by omega) (by rw [World.size_alloc]; omega)); (have HB7 := Lib.hid (HB6.out.trans (hb7.mono HB6.out.size))); (have HS7 := Lib.hid (refMsgSame_self x (HN6.out.below (Nat.le_refl _) hb7) (HM6.out.below (Nat.le_refl _) hb7))); clear hb hos hb7) | (refine wpList_load_guarded rfl 27 (.tmp 4) rfl _ _ rfl (HE7.out.loads 27 _ Try.underlying27 rfl (mgC_info _ _ _ _)) ?_) | (refine wpList_load_guarded rfl 27 (.tmp 7) rfl _ _ rfl (HF7.out.loads 27 _ Try.underlying27 rfl (mgC_info _ _ _ _)) ?_))
      refine HS7.out.mono ?_
      rintro e w8 ⟨rfl, hb8⟩
      have HB8 := Lib.hid (HB7.out.trans (hb8.mono HB7.out.size))
      clear hb8
      go_wp2
      go_ret
      exact ⟨rfl, HB8.out⟩

end Go.Proofs.Ytidapdooiibfnaa

/- The law MsgBack, walked. -/
namespace Go.Proofs.Ytidapdooiibfnaa
set_option maxRecDepth 20000
open Go.RowKit BinMath CmdMath
open MsgMath (Mg getM getM_lay putM formedM gMsg)

/-- A reading's fault has a number. -/
def Flt {α : Type} (p : MsgMath.Rd α) : Prop := ∀ l c, p l = .error c → c ≠ 0
theorem Flt.ret {α : Type} (x : α) : Flt (MsgMath.retP x) := fun l c h => by cases h
theorem Flt.fail {α : Type} {k : Nat} (hk : k ≠ 0) : Flt (MsgMath.failP k : MsgMath.Rd α) := fun l c h => by cases h; exact hk
theorem Flt.bind {α β : Type} {p : MsgMath.Rd α} {q : α → MsgMath.Rd β} (hp : Flt p) (hq : ∀ x, Flt (q x)) : Flt (MsgMath.bindP p q) := fun l c h => by
  cases hx : p l with
  | error d => rw [MsgMath.bindP_err hx] at h; cases h; exact hp l _ hx
  | ok w =>
    obtain ⟨x, t⟩ := w
    rw [MsgMath.bindP_ok hx] at h
    exact hq x t c h
theorem Flt.ite {α : Type} {c : Prop} [Decidable c] {p q : MsgMath.Rd α} (hp : c → Flt p) (hq : ¬ c → Flt q) : Flt (if c then p else q) := by
  split
  · rename_i h; exact hp h
  · rename_i h; exact hq h
theorem flt_num : Flt gNum := fun l c h => by have := gNum_err h; omega
theorem flt_byte : Flt gByte := fun l c h => by
  cases l with
  | nil => cases h; decide
  | cons x r => cases h
theorem flt_text (most : Nat) : Flt (gText most) := fun l c h => by have := gText_err h; omega
theorem flt_mem : Flt gMem := fun l c h => by have := gMem_err h; omega
theorem flt_range (lo hi : Nat) : Flt (MsgMath.gRange lo hi) := fun l c h => by have := MsgMath.gRange_err h; omega
theorem flt_yes : Flt MsgMath.gYes := flt_byte.bind fun _ => .ite (fun _ => .ret _) fun _ => .fail (by decide)
theorem flt_ents : ∀ n, Flt (MsgMath.gEnts n)
  | 0 => .ret _
  | n + 1 => (flt_text 128).bind fun _ => .ite (fun _ => (flt_ents n).bind fun _ => .ret _) fun h => .fail h
theorem flt_body (k f o t : Nat) : Flt (MsgMath.gBody k f o t) := by
  unfold MsgMath.gBody
  refine .ite (fun _ => ?_) (fun _ => .ite (fun _ => ?_) (fun _ => .ite (fun _ => ?_) (fun _ => .ite (fun _ => ?_) (fun _ => ?_))))
  · exact (flt_range _ _).bind fun _ => (flt_range _ _).bind fun _ => .ret _
  · exact flt_yes.bind fun _ => .ret _
  · exact (flt_range _ _).bind fun _ => (flt_range _ _).bind fun _ => (flt_range _ _).bind fun _ => flt_num.bind fun _ => flt_num.bind fun _ => .ite (fun _ => (flt_ents _).bind fun _ => .ret _) fun _ => .fail (by decide)
  · exact flt_yes.bind fun _ => (flt_range _ _).bind fun _ => flt_num.bind fun _ => .ret _
  · exact (flt_range _ _).bind fun _ => (flt_range _ _).bind fun _ => flt_num.bind fun _ => flt_mem.bind fun _ => (flt_text _).bind fun _ => .ret _
theorem flt_msg : Flt gMsg := flt_byte.bind fun _ => .ite (fun _ => (flt_range _ _).bind fun _ => (flt_range _ _).bind fun _ => (flt_range _ _).bind fun _ => flt_body _ _ _ _) fun _ => .fail (by decide)

/-- What was read is formed and was laid, or the reading gives up with nothing. -/
theorem getM_cases (l : List UInt8) : ((getM l).2 = 0 ∧ (getM l).1.Ok ∧ formedM (getM l).1 = true ∧ putM (getM l).1 = l) ∨ ((getM l).2 ≠ 0 ∧ (getM l).1 = Mg.zero) := by
  by_cases h0 : (getM l).2 = 0
  · refine .inl ⟨h0, ?_⟩
    unfold getM at h0 ⊢
    cases hg : gMsg l with
    | error c =>
      rw [hg] at h0
      exact absurd h0 (flt_msg l c hg)
    | ok q =>
      obtain ⟨m, r⟩ := q
      rw [hg] at h0
      obtain ⟨h1, h2, h3⟩ := MsgMath.gMsg_back hg
      by_cases hr : r = []
      · subst hr
        simp only [if_pos]
        exact ⟨h1, h2, by rw [h3, List.append_nil]⟩
      · simp [hr] at h0
  · refine .inr ⟨h0, ?_⟩
    unfold getM at h0 ⊢
    cases hg : gMsg l with
    | error c => rfl
    | ok q =>
      obtain ⟨m, r⟩ := q
      rw [hg] at h0
      by_cases hr : r = []
      · simp [hr] at h0
      · simp [hr]

set_option maxHeartbeats 4000000 in
set_option maxRecDepth 100000 in
theorem msg_back_all (hp : MsgProg) (w : World) (e : Mg) (ve vm vg : Value) (us : List EE) (he : MHas w e ve vm vg us) (av : Option Addr) (len cap : Nat) (zs : List Int) (hz : IsRow .u8 w av len cap zs) (hs : cap * 1 ≤ 140737488351232) :
    Calls Try.prog 5 #[.agg (mgC e ve vm vg), .slice av len cap] w fun e w' => e = .returned (.bool true) ∧ Below w.heap.size w w' := by
  obtain ⟨l, hlen, hv⟩ := hz.bys
  have hlc := hz.le
  have hll : l.length ≤ 140737488351232 := by omega
  obtain ⟨z, c, hxc⟩ : ∃ x c, getM l = (x, c) := ⟨_, _, rfl⟩
  have hcs := getM_cases l
  rw [hxc] at hcs
  have b1 : Below w.heap.size w (w.alloc (.cells (mgC e ve vm vg) 27)) := (Below.refl _ _).alloc (Nat.le_refl _) _
  have E0 := Lib.hid (Blk.new w 27 (mgC e ve vm vg))
  have HV := Lib.hid hv
  have HXC := Lib.hid hxc
  have HN5 := Lib.hid hlen.symm
  have HCs := Lib.hid hcs
  have HH0 := Lib.hid he
  have HB0 := Lib.hid b1
  have HLL := Lib.hid hll
  clear hv hz hs hxc hlen hcs he b1 hll
  cases hfe : formedM e with
  | false =>
    have HF := Lib.hid hfe
    have HPR := Lib.hid (show putMR e = ([], 1) by rw [putMR, if_neg (by rw [hfe]; decide)])
    clear hfe
    go_enter Try.func5, Try.ntmps5
    go_wp2_with fail
    refine (wake18_any hp _).mono ?_
    rintro r w1 ⟨rfl, hb1⟩
    have E1 := Lib.hid (E0.out.keep hb1)
    have HB1 := Lib.hid (HB0.out.trans (hb1.mono HB0.out.size))
    have HH1 := Lib.hid (HH0.out.below (Nat.le_refl _) HB1.out)
    clear hb1
    go_wp2_with (refine wpList_load_by rfl 27 (.tmp 2) rfl _ _ rfl (E1.out.loads 27 _ Try.underlying27 rfl (mgC_info _ _ _ _)) ?_)
    refine (hp.put_is HPR.out HH1.out).mono ?_
    rintro r w2 ⟨ap, kp, rfl, -, -, hb⟩
    have E2 := Lib.hid (E1.out.keep hb)
    have HB2 := Lib.hid (HB1.out.trans (hb.mono HB1.out.size))
    have HH2 := Lib.hid (HH1.out.below (Nat.le_refl _) hb)
    clear hb
    go_wp2_with (refine wpList_load_by rfl 27 (.tmp 2) rfl _ _ rfl (E2.out.loads 27 _ Try.underlying27 rfl (mgC_info _ _ _ _)) ?_)
    have HFo := Lib.hid (show Calls Try.prog 12 #[.agg (mgC e ve vm vg)] w2 fun r w' => r = .returned (.bool false) ∧ Below w2.heap.size w2 w' from by have h := hp.formed e _ _ _ us w2 HH2.out; rwa [HF.out] at h)
    refine HFo.out.mono ?_
    rintro r w3 ⟨rfl, hb⟩
    have HB3 := Lib.hid (HB2.out.trans (hb.mono HB2.out.size))
    clear hb HFo
    go_wp2_with fail
    have HG := Lib.hid (hp.get_is HXC.out (HV.out.below (Nat.le_refl _) HB3.out) HLL.out hlc)
    refine HG.out.mono ?_
    rintro r wp ⟨vex, vmx, vgx, usx, rfl, hm, hb⟩
    have HHp := Lib.hid hm.has
    have HBp := Lib.hid (HB3.out.trans (hb.mono HB3.out.size))
    clear hm hb HG
    by_cases hc : c = 0
    · subst hc
      have hcz : (((0 : Nat) : Int) != 0) = false := rfl
      obtain ⟨hzok, hzf, hzp⟩ : z.Ok ∧ formedM z = true ∧ putM z = l := by
        rcases HCs.out with ⟨_, h⟩ | ⟨h, _⟩
        · exact h
        · exact absurd rfl h
      have HZf := Lib.hid hzf
      have HZr := Lib.hid (show putMR z = (l, 0) by rw [putMR, if_pos hzf, hzp])
      clear hzok hzf hzp
      go_wp2_with (first | (refine wpList_store_all rfl 27 (.tmp 9) (.tmp 43) rfl wp.heap.size (mgC z vex vmx vgx) rfl rfl 27 zeroM (Blk.new wp _ _) (mgC_info _ _ _ _) rfl (mgC_one HHp.out) ?_; intro wq hb hos; (have Eq := Lib.hid hb); (have hbb := below_two ((Below.refl wp.heap.size wp).alloc (Nat.le_refl _) (.cells zeroM 27)) hos (fun k hk e => by omega) (by rw [World.size_alloc]; omega)); (have HHq := Lib.hid (HHp.out.below (Nat.le_refl _) hbb)); (have HBq := Lib.hid (HBp.out.trans (hbb.mono HBp.out.size))); clear hb hos hbb) | (refine wpList_load_by rfl 27 (.tmp 9) rfl _ _ rfl (Eq.out.loads 27 _ Try.underlying27 rfl (mgC_info _ _ _ _)) ?_))
      refine (hp.put_is HZr.out HHq.out).mono ?_
      rintro r wr ⟨aq, kq, rfl, hr, -, hb⟩
      obtain ⟨vq, hvq⟩ : ∃ vq, vq = Value.slice aq l.length kq := ⟨_, rfl⟩
      rw [← hvq] at hr ⊢
      clear hvq
      have c1 := conv_bys hr
      have HBr := Lib.hid (HBq.out.trans (hb.mono HBq.out.size))
      have c2 := conv_bys (HV.out.below (Nat.le_refl _) HBr.out)
      have Er := Lib.hid (Eq.out.keep hb)
      have HHr := Lib.hid (HHq.out.below (Nat.le_refl _) hb)
      have HFo := Lib.hid (show Calls Try.prog 12 #[.agg (mgC z vex vmx vgx)] wr fun r w' => r = .returned (.bool true) ∧ Below wr.heap.size wr w' from by have h := hp.formed z _ _ _ usx wr HHr.out; rwa [HZf.out] at h)
      obtain ⟨X, hX⟩ : ∃ X : ByteArray, X = ⟨l.toArray⟩ := ⟨_, rfl⟩
      rw [← hX] at c1 c2
      clear hr hb hX
      go_wp2_with (refine wpList_load_guarded rfl 27 (.tmp 9) rfl _ _ rfl (Er.out.loads 27 _ Try.underlying27 rfl (mgC_info _ _ _ _)) ?_)
      refine HFo.out.mono ?_
      rintro r ws ⟨rfl, hb⟩
      have HBs := Lib.hid (HBr.out.trans (hb.mono HBr.out.size))
      clear hb c1 c2
      go_wp2
      go_ret
      exact ⟨rfl, HBs.out⟩
    · have hcz : ((c : Int) != 0) = true := by simp; omega
      obtain rfl : z = Mg.zero := by
        rcases HCs.out with ⟨h, _⟩ | ⟨_, h⟩
        · exact absurd h hc
        · exact h
      go_wp2_with (first | (refine wpList_store_all rfl 27 (.tmp 9) (.tmp 43) rfl wp.heap.size (mgC Mg.zero vex vmx vgx) rfl rfl 27 zeroM (Blk.new wp _ _) (mgC_info _ _ _ _) rfl (mgC_one HHp.out) ?_; intro wq hb hos; (have Eq := Lib.hid hb); (have hbb := below_two ((Below.refl wp.heap.size wp).alloc (Nat.le_refl _) (.cells zeroM 27)) hos (fun k hk e => by omega) (by rw [World.size_alloc]; omega)); (have HHq := Lib.hid (HHp.out.below (Nat.le_refl _) hbb)); (have HBq := Lib.hid (HBp.out.trans (hbb.mono HBp.out.size))); clear hb hos hbb) | (refine wpList_load_by rfl 27 (.tmp 9) rfl _ _ rfl (Eq.out.loads 27 _ Try.underlying27 rfl (mgC_info _ _ _ _)) ?_))
      refine (hp.same_self Mg.zero HHq.out (MHas.zero wq)).mono ?_
      rintro r wr ⟨rfl, hb⟩
      have HBr := Lib.hid (HBq.out.trans (hb.mono HBq.out.size))
      clear hb
      go_wp2
      go_ret
      exact ⟨rfl, HBr.out⟩
  | true =>
    have HF := Lib.hid hfe
    have HPR := Lib.hid (show putMR e = (putM e, 0) by rw [putMR, if_pos hfe])
    have hpl := (putM_len HH0.out.ok hfe).2
    clear hfe
    go_enter Try.func5, Try.ntmps5
    go_wp2_with fail
    refine (wake18_any hp _).mono ?_
    rintro r w1 ⟨rfl, hb1⟩
    have E1 := Lib.hid (E0.out.keep hb1)
    have HB1 := Lib.hid (HB0.out.trans (hb1.mono HB0.out.size))
    have HH1 := Lib.hid (HH0.out.below (Nat.le_refl _) HB1.out)
    clear hb1
    go_wp2_with (refine wpList_load_by rfl 27 (.tmp 2) rfl _ _ rfl (E1.out.loads 27 _ Try.underlying27 rfl (mgC_info _ _ _ _)) ?_)
    refine (hp.put_is HPR.out HH1.out).mono ?_
    rintro r w2 ⟨ap, cp, rfl, hr, hcp, hb⟩
    have HR2 := Lib.hid hr
    have E2 := Lib.hid (E1.out.keep hb)
    have HB2 := Lib.hid (HB1.out.trans (hb.mono HB1.out.size))
    have HH2 := Lib.hid (HH1.out.below (Nat.le_refl _) hb)
    clear hb hr
    go_wp2_with (refine wpList_load_by rfl 27 (.tmp 2) rfl _ _ rfl (E2.out.loads 27 _ Try.underlying27 rfl (mgC_info _ _ _ _)) ?_)
    have HFo := Lib.hid (show Calls Try.prog 12 #[.agg (mgC e ve vm vg)] w2 fun r w' => r = .returned (.bool true) ∧ Below w2.heap.size w2 w' from by have h := hp.formed e _ _ _ us w2 HH2.out; rwa [HF.out] at h)
    refine HFo.out.mono ?_
    rintro r w3 ⟨rfl, hb⟩
    have E3 := Lib.hid (E2.out.keep hb)
    have HB3 := Lib.hid (HB2.out.trans (hb.mono HB2.out.size))
    have HH3 := Lib.hid (HH2.out.below (Nat.le_refl _) hb)
    have HGe := Lib.hid (hp.get_is (getM_lay e HH0.out.ok HF.out) (HR2.out.below (Nat.le_refl _) hb) (by omega) hcp)
    clear hb HFo hpl hcp
    go_wp2_with fail
    refine HGe.out.mono ?_
    rintro r w4 ⟨vey, vmy, vgy, usy, rfl, hm, hb⟩
    have HHy4 := Lib.hid hm.has
    have HB4 := Lib.hid (HB3.out.trans (hb.mono HB3.out.size))
    have HH4 := Lib.hid (HH3.out.below (Nat.le_refl _) hb)
    have E4 := Lib.hid (E3.out.keep hb)
    clear hm hb HGe
    go_wp2_with (first | (refine wpList_store_all rfl 27 (.tmp 7) (.tmp 30) rfl w4.heap.size (mgC e vey vmy vgy) rfl rfl 27 zeroM (Blk.new w4 _ _) (mgC_info _ _ _ _) rfl (mgC_one HHy4.out) ?_; intro w5 hb hos; (have EY := Lib.hid hb); (have hbb := below_two ((Below.refl w4.heap.size w4).alloc (Nat.le_refl _) (.cells zeroM 27)) hos (fun k hk e => by omega) (by rw [World.size_alloc]; omega)); (have HHy5 := Lib.hid (HHy4.out.below (Nat.le_refl _) hbb)); (have HB5 := Lib.hid (HB4.out.trans (hbb.mono HB4.out.size))); (have HH5 := Lib.hid (HH4.out.below (Nat.le_refl _) hbb)); (have E5 := Lib.hid (E4.out.keep hbb)); clear hb hos hbb) | (refine wpList_load_guarded rfl 27 (.tmp 2) rfl _ _ rfl (E5.out.loads 27 _ Try.underlying27 rfl (mgC_info _ _ _ _)) ?_) | (refine wpList_load_guarded rfl 27 (.tmp 7) rfl _ _ rfl (EY.out.loads 27 _ Try.underlying27 rfl (mgC_info _ _ _ _)) ?_))
    refine (hp.same_self e HHy5.out HH5.out).mono ?_
    rintro r w6 ⟨rfl, hb⟩
    have HB6 := Lib.hid (HB5.out.trans (hb.mono HB5.out.size))
    clear hb
    go_wp2_with fail
    have HG := Lib.hid (hp.get_is HXC.out (HV.out.below (Nat.le_refl _) HB6.out) HLL.out hlc)
    refine HG.out.mono ?_
    rintro r wp ⟨vex, vmx, vgx, usx, rfl, hm, hb⟩
    have HHp := Lib.hid hm.has
    have HBp := Lib.hid (HB6.out.trans (hb.mono HB6.out.size))
    clear hm hb HG
    by_cases hc : c = 0
    · subst hc
      have hcz : (((0 : Nat) : Int) != 0) = false := rfl
      obtain ⟨hzok, hzf, hzp⟩ : z.Ok ∧ formedM z = true ∧ putM z = l := by
        rcases HCs.out with ⟨_, h⟩ | ⟨h, _⟩
        · exact h
        · exact absurd rfl h
      have HZf := Lib.hid hzf
      have HZr := Lib.hid (show putMR z = (l, 0) by rw [putMR, if_pos hzf, hzp])
      clear hzok hzf hzp
      go_wp2_with (first | (refine wpList_store_all rfl 27 (.tmp 9) (.tmp 43) rfl wp.heap.size (mgC z vex vmx vgx) rfl rfl 27 zeroM (Blk.new wp _ _) (mgC_info _ _ _ _) rfl (mgC_one HHp.out) ?_; intro wq hb hos; (have Eq := Lib.hid hb); (have hbb := below_two ((Below.refl wp.heap.size wp).alloc (Nat.le_refl _) (.cells zeroM 27)) hos (fun k hk e => by omega) (by rw [World.size_alloc]; omega)); (have HHq := Lib.hid (HHp.out.below (Nat.le_refl _) hbb)); (have HBq := Lib.hid (HBp.out.trans (hbb.mono HBp.out.size))); clear hb hos hbb) | (refine wpList_load_by rfl 27 (.tmp 9) rfl _ _ rfl (Eq.out.loads 27 _ Try.underlying27 rfl (mgC_info _ _ _ _)) ?_))
      refine (hp.put_is HZr.out HHq.out).mono ?_
      rintro r wr ⟨aq, kq, rfl, hr, -, hb⟩
      obtain ⟨vq, hvq⟩ : ∃ vq, vq = Value.slice aq l.length kq := ⟨_, rfl⟩
      rw [← hvq] at hr ⊢
      clear hvq
      have c1 := conv_bys hr
      have HBr := Lib.hid (HBq.out.trans (hb.mono HBq.out.size))
      have c2 := conv_bys (HV.out.below (Nat.le_refl _) HBr.out)
      have Er := Lib.hid (Eq.out.keep hb)
      have HHr := Lib.hid (HHq.out.below (Nat.le_refl _) hb)
      have HFo := Lib.hid (show Calls Try.prog 12 #[.agg (mgC z vex vmx vgx)] wr fun r w' => r = .returned (.bool true) ∧ Below wr.heap.size wr w' from by have h := hp.formed z _ _ _ usx wr HHr.out; rwa [HZf.out] at h)
      obtain ⟨X, hX⟩ : ∃ X : ByteArray, X = ⟨l.toArray⟩ := ⟨_, rfl⟩
      rw [← hX] at c1 c2
      clear hr hb hX
      go_wp2_with (refine wpList_load_guarded rfl 27 (.tmp 9) rfl _ _ rfl (Er.out.loads 27 _ Try.underlying27 rfl (mgC_info _ _ _ _)) ?_)
      refine HFo.out.mono ?_
      rintro r ws ⟨rfl, hb⟩
      have HBs := Lib.hid (HBr.out.trans (hb.mono HBr.out.size))
      clear hb c1 c2
      go_wp2
      go_ret
      exact ⟨rfl, HBs.out⟩
    · have hcz : ((c : Int) != 0) = true := by simp; omega
      obtain rfl : z = Mg.zero := by
        rcases HCs.out with ⟨h, _⟩ | ⟨_, h⟩
        · exact absurd h hc
        · exact h
      go_wp2_with (first | (refine wpList_store_all rfl 27 (.tmp 9) (.tmp 43) rfl wp.heap.size (mgC Mg.zero vex vmx vgx) rfl rfl 27 zeroM (Blk.new wp _ _) (mgC_info _ _ _ _) rfl (mgC_one HHp.out) ?_; intro wq hb hos; (have Eq := Lib.hid hb); (have hbb := below_two ((Below.refl wp.heap.size wp).alloc (Nat.le_refl _) (.cells zeroM 27)) hos (fun k hk e => by omega) (by rw [World.size_alloc]; omega)); (have HHq := Lib.hid (HHp.out.below (Nat.le_refl _) hbb)); (have HBq := Lib.hid (HBp.out.trans (hbb.mono HBp.out.size))); clear hb hos hbb) | (refine wpList_load_by rfl 27 (.tmp 9) rfl _ _ rfl (Eq.out.loads 27 _ Try.underlying27 rfl (mgC_info _ _ _ _)) ?_))
      refine (hp.same_self Mg.zero HHq.out (MHas.zero wq)).mono ?_
      rintro r wr ⟨rfl, hb⟩
      have HBr := Lib.hid (HBq.out.trans (hb.mono HBq.out.size))
      clear hb
      go_wp2
      go_ret
      exact ⟨rfl, HBr.out⟩

end Go.Proofs.Ytidapdooiibfnaa

/- The law MsgCuts, walked. -/
namespace Go.Proofs.Ytidapdooiibfnaa
set_option maxRecDepth 20000
open Go.RowKit BinMath CmdMath
open MsgMath (Mg getM getM_cut getM_more putM formedM)

theorem mod_place18 (x : Int) (L : Nat) (h0 : 0 < L) (hL : L ≤ 20000) : ∃ m : Nat, wrap64 ((IntKind.u64.wrap x).tmod (L : Int)) = (m : Int) ∧ m < L := by
  rw [IntKind.wrap_u64]
  have h0 : 0 ≤ x % 18446744073709551616 := Int.emod_nonneg _ (by decide)
  rw [Int.tmod_eq_emod_of_nonneg h0]
  have h1 : 0 ≤ (x % 18446744073709551616) % (L : Int) := Int.emod_nonneg _ (by omega)
  have h2 : (x % 18446744073709551616) % (L : Int) < (L : Int) := Int.emod_lt_of_pos _ (by omega)
  refine ⟨((x % 18446744073709551616) % (L : Int)).toNat, ?_, by omega⟩
  rw [IntWalk.wrap64_in _ ⟨by omega, by omega⟩, Int.toNat_of_nonneg h1]

set_option maxHeartbeats 4000000 in
set_option maxRecDepth 100000 in
theorem msg_cuts_all (hp : MsgProg) (w : World) (e : Mg) (ve vm vg : Value) (us : List EE) (he : MHas w e ve vm vg us) (at_ : Int) (_ : (Lit.int .i64 at_).wf = true) (more : Int) (wm : (Lit.int .u8 more).wf = true) :
    Calls Try.prog 6 #[.agg (mgC e ve vm vg), .int .i64 at_, .int .u8 more] w fun e w' => e = .returned (.bool true) ∧ Below w.heap.size w w' := by
  obtain ⟨mb, rfl⟩ : ∃ mb : UInt8, more = (mb.toNat : Int) := by
    have := bounds_u8 wm
    refine ⟨UInt8.ofNat more.toNat, ?_⟩
    simp
    omega
  have b1 : Below w.heap.size w (w.alloc (.cells (mgC e ve vm vg) 27)) := (Below.refl _ _).alloc (Nat.le_refl _) _
  have E0 := Lib.hid (Blk.new w 27 (mgC e ve vm vg))
  have HH0 := Lib.hid he
  have HB0 := Lib.hid b1
  clear he b1 wm
  cases hfe : formedM e with
  | false =>
    have HF := Lib.hid (show putMR e = ([], 1) by rw [putMR, if_neg (by rw [hfe]; decide)])
    clear hfe
    go_enter Try.func6, Try.ntmps6
    go_wp2_with fail
    refine (wake18_any hp _).mono ?_
    rintro r w1 ⟨rfl, hb1⟩
    have E1 := Lib.hid (E0.out.keep hb1)
    have HB1 := Lib.hid (HB0.out.trans (hb1.mono HB0.out.size))
    have HH1 := Lib.hid (HH0.out.below (Nat.le_refl _) HB1.out)
    clear hb1
    go_wp2_with (refine wpList_load_by rfl 27 (.tmp 3) rfl _ _ rfl (E1.out.loads 27 _ Try.underlying27 rfl (mgC_info _ _ _ _)) ?_)
    refine (hp.put_is HF.out HH1.out).mono ?_
    rintro r w2 ⟨ap, kp, rfl, -, -, hb⟩
    have HB2 := Lib.hid (HB1.out.trans (hb.mono HB1.out.size))
    clear hb
    go_wp2
    go_ret
    exact ⟨rfl, HB2.out⟩
  | true =>
    obtain ⟨hp0, hpl⟩ := putM_len HH0.out.ok hfe
    have hcut := fun n => getM_cut e HH0.out.ok hfe n
    have hmore := fun y => getM_more e HH0.out.ok hfe y []
    have hpr : putMR e = (putM e, 0) := by rw [putMR, if_pos hfe]
    obtain ⟨P, hP⟩ : ∃ P, P = putM e := ⟨_, rfl⟩
    rw [← hP] at hpl hp0 hcut hmore hpr
    have HPR := Lib.hid hpr
    obtain ⟨n, hn⟩ : ∃ n, n = P.length := ⟨_, rfl⟩
    rw [← hn] at hpl hp0 hcut
    obtain ⟨m, hm, hmn⟩ := mod_place18 at_ n hp0 hpl
    have HCut := Lib.hid (hcut m hmn)
    have HMore := Lib.hid (hmore mb)
    have HP := Lib.hid hP
    have HN := Lib.hid hn
    have hn0 : ((n : Int) == 0) = false := beq_false_of_ne (by omega)
    clear hfe hcut hmore hpr hP hn
    go_enter Try.func6, Try.ntmps6
    go_wp2_with fail
    refine (wake18_any hp _).mono ?_
    rintro r w1 ⟨rfl, hb1⟩
    have E1 := Lib.hid (E0.out.keep hb1)
    have HB1 := Lib.hid (HB0.out.trans (hb1.mono HB0.out.size))
    have HH1 := Lib.hid (HH0.out.below (Nat.le_refl _) HB1.out)
    clear hb1
    go_wp2_with (refine wpList_load_by rfl 27 (.tmp 3) rfl _ _ rfl (E1.out.loads 27 _ Try.underlying27 rfl (mgC_info _ _ _ _)) ?_)
    refine (hp.put_is HPR.out HH1.out).mono ?_
    rintro r w2 ⟨ap, cp, rfl, hr, hcp, hb⟩
    rw [← HN.out] at hr hcp ⊢
    have hsl := fun W => slice_to ap n cp m (by omega) W
    have HR2 := Lib.hid hr
    have HB2 := Lib.hid (HB1.out.trans (hb.mono HB1.out.size))
    have HG := Lib.hid (hp.get_is (v := ap) (len := m) (k := cp) HCut.out (hr.take m (by rw [← HN.out]; omega)) (by rw [List.length_take]; omega) (by omega))
    clear hb hr
    go_wp2_with fail
    refine HG.out.mono ?_
    rintro r w3 ⟨vex, vmx, vgx, usx, rfl, hm3, hb⟩
    have HX3 := Lib.hid (mgC_one hm3.has)
    have HB3 := Lib.hid (HB2.out.trans (hb.mono HB2.out.size))
    have HR3 := Lib.hid (HR2.out.below (Nat.le_refl _) hb)
    clear hb HG hm hsl hm3
    go_upto_region 7 with (refine wpList_store_all rfl 27 (.tmp 9) (.tmp 40) rfl w3.heap.size (mgC Mg.zero vex vmx vgx) rfl rfl 27 zeroM (Blk.new w3 _ _) (mgC_info _ _ _ _) rfl HX3.out ?_; intro w4 hb hos; (have EX := Lib.hid hb); (have hbb := below_two ((Below.refl w3.heap.size w3).alloc (Nat.le_refl _) (.cells zeroM 27)) hos (fun k hk e => by omega) (by rw [World.size_alloc]; omega)); (have HHr4 := Lib.hid (HR3.out.below (Nat.le_refl _) hbb)); (have HB4 := Lib.hid (HB3.out.trans (hbb.mono HB3.out.size))); clear hb hos hbb)
    have A1 := Lib.hid (append_lit (B := w4.heap.size) (g := w4.heap.size) (w := w4.alloc (.cells #[] 5)) (Nat.le_refl _) (heap_alloc_new w4 _) (HHr4.out.below (Nat.le_refl _) ((Below.refl _ w4).alloc (Nat.le_refl _) _)) (by rw [← HN.out]; omega))
    go_wp2_with (first | (at_builtin; refine wpList_append_by rfl (.tmp 43) (.tmp 44) 25 rfl _ _ rfl rfl _ A1.out ?_; rintro v5 w5 ⟨hr, hb⟩; (have hb5 := (((Below.refl w4.heap.size w4).alloc (Nat.le_refl _) (.cells #[] 5)).trans (hb.mono (by rw [World.size_alloc]; omega)))); (have HB5 := Lib.hid (HB4.out.trans (hb5.mono HB4.out.size))); (have hs45 : w4.heap.size ≤ w5.heap.size := hb5.size); (have HR5 := Lib.hid hr); (have A2 := Lib.hid (append_bys (B := w4.heap.size) (by rw [World.size_alloc]; omega) (hr.below ((Below.refl _ w5).alloc (Nat.le_refl _) (.cells #[bv mb] 5))) (byte_bys w5 mb) (by rw [← HN.out]; simp only [List.length_cons, List.length_nil]; omega))); clear hr hb hb5) | (at_builtin; refine wpList_append_by rfl (.tmp 45) (.tmp 47) 25 rfl _ _ rfl rfl _ A2.out ?_; rintro v6 w6 ⟨hr, hgr⟩; (obtain ⟨a6, c6, rfl, hc6⟩ : ∃ a c, v6 = .slice a (n + 1) c ∧ n + 1 ≤ c := by have h := row_cap hr; rw [List.length_append, ← HN.out] at h; exact h); (have HB6 := Lib.hid ((HB5.out.alloc HB5.out.size (.cells #[bv mb] 5)).grown hgr (by rw [World.size_alloc]; have := HB5.out.size; omega) fun k hk => Nat.le_trans HB4.out.size (World.ownsRow.lt HR5.out k hk).1)); (have HG6 := Lib.hid (hp.get_is HMore.out hr.bys (by rw [List.length_append, ← HN.out]; simp only [List.length_cons, List.length_nil]; omega) hc6)); clear hr hgr))
    refine HG6.out.mono ?_
    rintro r w7 ⟨vey, vmy, vgy, usy, rfl, hm7, hb⟩
    have HY3 := Lib.hid (mgC_one hm7.has)
    have HB7 := Lib.hid (HB6.out.trans (hb.mono HB6.out.size))
    clear hb HG6 hm7
    go_wp2_with (refine wpList_store_all rfl 27 (.tmp 11) (.tmp 50) rfl w7.heap.size (mgC Mg.zero vey vmy vgy) rfl rfl 27 zeroM (Blk.new w7 _ _) (mgC_info _ _ _ _) rfl HY3.out ?_; intro w8 hb hos; (have EY := Lib.hid hb); (have hbb := below_two ((Below.refl w7.heap.size w7).alloc (Nat.le_refl _) (.cells zeroM 27)) hos (fun k hk e => by omega) (by rw [World.size_alloc]; omega)); (have HB8 := Lib.hid (HB7.out.trans (hbb.mono HB7.out.size))); clear hb hos hbb)
    go_ret
    exact ⟨rfl, HB8.out⟩

end Go.Proofs.Ytidapdooiibfnaa

/- The law MsgSames, walked. -/
namespace Go.Proofs.Ytidapdooiibfnaa
set_option maxRecDepth 20000
open Go.RowKit BinMath CmdMath Reg
open MsgMath (Mg getM putM formedM putM_inj)

end Go.Proofs.Ytidapdooiibfnaa

/- A message that came in. -/
namespace Go.Proofs.Ytidapdooiibfnaa
set_option maxRecDepth 20000
open Go.RowKit Go.ChangeShapes Go.Deep BinMath
open CmdMath (Ent)
open MsgMath (Mg)

theorem twelve_cells (l : List Value) (h : l.length = 12) : ∃ a b c d e f g i j k m n, l = [a, b, c, d, e, f, g, i, j, k, m, n] := by
  match l, h with
  | [a, b, c, d, e, f, g, i, j, k, m, n], _ => exact ⟨a, b, c, d, e, f, g, i, j, k, m, n, rfl⟩

theorem weights_one {H : Type} {t : TypeId} {d : DataW H} (h : (d.weights Try.prog t).all (· ≤ reachBytes) = true) : (DataW.weightsEach Try.prog [t] [d]).all (· ≤ reachBytes) = true := by
  simpa [DataW.weightsEach] using h

theorem bytes_in {H : Type} {enc : TypeId × Value → H} {W : World} {n : Nat} {u : Value} {y : DataW H × List MemPlace} (f4 : DataW.trod enc Try.prog W 0 (fun _ => true) true n 25 [u] = some y) :
    ∃ A C, ∃ d : List UInt8, u = .slice A d.length C ∧ Bys W (.slice A d.length C) d ∧ ((y.1.weights Try.prog 25).all (· ≤ reachBytes) = true → d.length ≤ 140737488351232) := by
  obtain ⟨yd, yp⟩ := y
  rcases open_ints Try.underlying25 Try.underlying5 (by kernel_rfl) f4 with ⟨hcs, _⟩ | ⟨x', l', c', zs, hcs, _, hl', hm', hz', hx', hcell', hwz'⟩
  · simp at hcs
    subst hcs
    exact ⟨none, 0, [], rfl, .inl ⟨rfl, rfl⟩, fun _ => by simp⟩
  · simp at hcs
    subst hcs
    simp only [if_true] at hz'
    obtain ⟨d, hd, hbd⟩ := IsRow.bys (w := W) (a := some x') (len := l') (cap := c') (zs := zs) (.inr ⟨_, rfl, hl', hm', hz', hcell', hwz'⟩)
    subst hd
    refine ⟨some x', c', d, rfl, hbd, fun hh => ?_⟩
    have hyd : yd = _ := (Prod.mk.inj hx').1
    have hs4 := sized_slice (weights_one hh) (j := 0) (t := 25) (e := 5) (elems := lits .u8 (zs.take d.length)) (spare := lits .u8 (zs.drop d.length)) rfl
      (by rw [← hyd]; rfl) Try.underlying25
    have hb : Try.prog.bytesOf 5 = 1 := by kernel_rfl
    rw [hb] at hs4
    simp only [lits, List.length_map, List.length_take, List.length_drop, reachBytes] at hs4
    omega

theorem nums_in {H : Type} {enc : TypeId × Value → H} {W : World} {n : Nat} {u : Value} {y : DataW H × List MemPlace} (f5 : DataW.trod enc Try.prog W 0 (fun _ => true) true n 24 [u] = some y) :
    ∃ A C, ∃ m : List Nat, u = .slice A m.length C ∧ Nums W (.slice A m.length C) m ∧ (∀ y ∈ m, y < 18446744073709551616) ∧ ((y.1.weights Try.prog 24).all (· ≤ reachBytes) = true → m.length ≤ 17592186043904) := by
  obtain ⟨yd, yp⟩ := y
  rcases open_ints Try.underlying24 Try.underlying22 (by kernel_rfl) f5 with ⟨hcs, _⟩ | ⟨x', l', c', zs, hcs, _, hl', hm', hz', hx', hcell', hwz'⟩
  · simp at hcs
    subst hcs
    exact ⟨none, 0, [], rfl, .inl ⟨rfl, rfl⟩, by simp, fun _ => by simp⟩
  · simp at hcs
    subst hcs
    simp only [if_true] at hz'
    obtain ⟨m, hm, hmb, hbm⟩ := IsRow.nums (w := W) (a := some x') (len := l') (cap := c') (zs := zs) (.inr ⟨_, rfl, hl', hm', hz', hcell', hwz'⟩)
    subst hm
    refine ⟨some x', c', m, rfl, hbm, hmb, fun hh => ?_⟩
    have hyd : yd = _ := (Prod.mk.inj hx').1
    have hs5 := sized_slice (weights_one hh) (j := 0) (t := 24) (e := 22) (elems := lits .u64 (zs.take m.length)) (spare := lits .u64 (zs.drop m.length)) rfl
      (by rw [← hyd]; rfl) Try.underlying24
    have hb : Try.prog.bytesOf 22 = 8 := by kernel_rfl
    rw [hb] at hs5
    simp only [lits, List.length_map, List.length_take, List.length_drop, reachBytes] at hs5
    omega

instance : Inhabited EE := ⟨⟨Ent.zero, none, 0, none, 0⟩⟩

theorem weights_all {H : Type} {e : TypeId} : ∀ {l : List (DataW H)} {d : DataW H}, d ∈ l → ∀ n ∈ d.weights Try.prog e, n ∈ DataW.weightsAll Try.prog e l
  | x :: l, d, hd, n, hn => by
    simp only [DataW.weightsAll, List.mem_append]
    rcases List.mem_cons.1 hd with rfl | h
    · exact .inl hn
    · exact .inr (weights_all h n hn)

/-- A list of entries that came in. -/
theorem els_open {H : Type} {enc : TypeId × Value → H} {W : World} {fuel : Nat} {v : Value} {x : DataW H × List MemPlace}
    (hf : DataW.trod enc Try.prog W 0 (fun _ => true) true fuel 23 [v] = some x) :
    ∃ us : List EE, Els W v us ∧ (∀ u ∈ us, u.e.Ok) ∧ ((x.1.weights Try.prog 23).all (· ≤ reachBytes) = true → HasAll W us ∧ us.length ≤ 1759218604390 ∧ ∀ u ∈ us, u.e.m.length ≤ 17592186043904) := by
  rcases open_slice Try.underlying23 hf with ⟨hcs, _⟩ | ⟨ad, ln, c, m, n, D, Pl, hcs, _, hl, hm, hmm, hx, hel⟩
  · simp at hcs
    subst hcs
    exact ⟨[], .inl ⟨rfl, rfl⟩, by simp, fun _ => ⟨fun u hu => absurd hu List.not_mem_nil, by simp, by simp⟩⟩
  · simp at hcs
    subst hcs
    simp only [if_true] at hmm
    have hC : Try.prog.cellsOf 42 = 6 := by kernel_rfl
    obtain ⟨f, hfp⟩ := choose_lt (α := EE) (n := ln) (p := fun i u => u.e.Ok ∧ Bys W (.slice u.a u.e.d.length u.ca) u.e.d ∧ Nums W (.slice u.b u.e.m.length u.cb) u.e.m ∧
        (((D i).weights Try.prog 42).all (· ≤ reachBytes) = true → u.e.d.length ≤ 140737488351232 ∧ u.e.m.length ≤ 17592186043904) ∧
        ∀ j v, u.cells[j]? = some v → W.cell? ((ad.add (i * 6)).add j) = some v) (fun i hi => by
      obtain ⟨cs', h1, h2⟩ := hel i (by omega)
      rw [hC] at h1
      obtain ⟨-, hlen, hcell⟩ := World.cells?_some h1
      obtain ⟨e, a, ca, b, cb, rfl, ho, hb, hn, hw⟩ := ent_open h2
      refine ⟨⟨e, a, ca, b, cb⟩, ho, hb, hn, hw, fun j v hj => ?_⟩
      have hj6 : j < 6 := (List.getElem?_eq_some_iff.1 hj).1
      have h3 := hcell j hj6
      rw [← hj]
      exact h3)
    have hget : ∀ (i : Nat) (u : EE), ((List.range ln).map f)[i]? = some u → i < ln ∧ u = f i := fun i u hi => by
      rw [List.getElem?_map] at hi
      obtain ⟨j, hj, rfl⟩ := Option.map_eq_some_iff.1 hi
      obtain ⟨hj1, hj2⟩ := List.getElem?_eq_some_iff.1 hj
      simp at hj1 hj2
      subst hj2
      exact ⟨hj1, rfl⟩
    have hmem : ∀ u ∈ (List.range ln).map f, ∃ i, i < ln ∧ u = f i := fun u hu => by
      obtain ⟨i, hi⟩ := List.mem_iff_getElem?.1 hu
      exact ⟨i, hget i u hi⟩
    refine ⟨(List.range ln).map f, .inr ⟨ad, c, by simp, by simp; omega, fun j u hj => ?_⟩, fun u hu => ?_, fun hw => ?_⟩
    · have hjl : j < ln * 6 := by
        have := (List.getElem?_eq_some_iff.1 hj).1
        rw [cells_all] at this
        simpa using this
      have hi : j / 6 < ((List.range ln).map f).length := by simp; omega
      have hd := cells_drop ((List.range ln).map f) (j / 6)
      rw [List.drop_eq_getElem_cons hi, List.flatMap_cons] at hd
      have h4 : (((List.range ln).map f)[j / 6]).cells[j % 6]? = some u := by
        have h5 : ((((List.range ln).map f).flatMap EE.cells).drop (j / 6 * 6))[j % 6]? = some u := by
          rw [List.getElem?_drop, show j / 6 * 6 + j % 6 = j by omega]
          exact hj
        rw [hd, List.getElem?_append_left (by rw [EE.cells_len]; omega)] at h5
        exact h5
      obtain ⟨h7, h8⟩ := hget (j / 6) _ (List.getElem?_eq_getElem hi)
      rw [h8] at h4
      have h6 := (hfp _ h7).2.2.2.2 _ _ h4
      rwa [addr_add_add, show j / 6 * 6 + j % 6 = j by omega] at h6
    · obtain ⟨i, hi, rfl⟩ := hmem u hu
      exact (hfp i hi).1
    · rw [hx] at hw
      simp only [DataW.weights, Try.underlying23, List.all_cons, Bool.and_eq_true, List.all_append] at hw
      obtain ⟨h1, h2, -⟩ := hw
      have hb : Try.prog.bytesOf 42 = 80 := by kernel_rfl
      rw [hb] at h1
      simp only [List.length_map, List.length_range, reachBytes, decide_eq_true_eq] at h1
      have hD : ∀ i, i < ln → ((D i).weights Try.prog 42).all (· ≤ reachBytes) = true := fun i hi =>
        List.all_eq_true.2 fun n hn => List.all_eq_true.1 h2 n (weights_all (List.mem_map.2 ⟨i, List.mem_range.2 hi, rfl⟩) n hn)
      refine ⟨fun u hu => ?_, by simp; omega, fun u hu => ?_⟩
      · obtain ⟨i, hi, rfl⟩ := hmem u hu
        obtain ⟨p1, p2, p3, p4, -⟩ := hfp i hi
        obtain ⟨q1, q2⟩ := p4 (hD i hi)
        exact ⟨p1, p2, p3, q1, Nat.le_trans q2 (by decide)⟩
      · obtain ⟨i, hi, rfl⟩ := hmem u hu
        exact ((hfp i hi).2.2.2.1 (hD i hi)).2

theorem msg_open {H : Type} {enc : TypeId × Value → H} {W : World} {fuel : Nat} {cs : List Value} {x : DataW H × List MemPlace}
    (h : DataW.trod enc Try.prog W 0 (fun _ => true) true fuel 27 cs = some x) :
    ∃ (m : Mg) (ve vm vg : Value) (us : List EE), cs = (mgC m ve vm vg).toList ∧
      ((x.1.weights Try.prog 27).all (· ≤ reachBytes) = true → MHas W m ve vm vg us ∧ us.length ≤ 1759218604390 ∧ m.m.length ≤ 17592186043904 ∧ ∀ u ∈ us, u.e.m.length ≤ 17592186043904) := by
  obtain ⟨xs, n', -, hx, hlen, hxl, hfld⟩ := DataW.trod_struct Try.underlying27 h
  have f0 : DataW.trod enc Try.prog W 0 (fun _ => true) true n' 3 ((cs.drop 0).take (Try.prog.cellsOf 3)) = xs[0]? := hfld 0 _ rfl
  have f1 : DataW.trod enc Try.prog W 0 (fun _ => true) true n' 22 ((cs.drop 1).take (Try.prog.cellsOf 22)) = xs[1]? := hfld 1 _ rfl
  have f2 : DataW.trod enc Try.prog W 0 (fun _ => true) true n' 22 ((cs.drop 2).take (Try.prog.cellsOf 22)) = xs[2]? := hfld 2 _ rfl
  have f3 : DataW.trod enc Try.prog W 0 (fun _ => true) true n' 22 ((cs.drop 3).take (Try.prog.cellsOf 22)) = xs[3]? := hfld 3 _ rfl
  have f4 : DataW.trod enc Try.prog W 0 (fun _ => true) true n' 22 ((cs.drop 4).take (Try.prog.cellsOf 22)) = xs[4]? := hfld 4 _ rfl
  have f5 : DataW.trod enc Try.prog W 0 (fun _ => true) true n' 22 ((cs.drop 5).take (Try.prog.cellsOf 22)) = xs[5]? := hfld 5 _ rfl
  have f6 : DataW.trod enc Try.prog W 0 (fun _ => true) true n' 22 ((cs.drop 6).take (Try.prog.cellsOf 22)) = xs[6]? := hfld 6 _ rfl
  have f7 : DataW.trod enc Try.prog W 0 (fun _ => true) true n' 22 ((cs.drop 7).take (Try.prog.cellsOf 22)) = xs[7]? := hfld 7 _ rfl
  have f8 : DataW.trod enc Try.prog W 0 (fun _ => true) true n' 4 ((cs.drop 8).take (Try.prog.cellsOf 4)) = xs[8]? := hfld 8 _ rfl
  have f9 : DataW.trod enc Try.prog W 0 (fun _ => true) true n' 23 ((cs.drop 9).take (Try.prog.cellsOf 23)) = xs[9]? := hfld 9 _ rfl
  have f10 : DataW.trod enc Try.prog W 0 (fun _ => true) true n' 24 ((cs.drop 10).take (Try.prog.cellsOf 24)) = xs[10]? := hfld 10 _ rfl
  have f11 : DataW.trod enc Try.prog W 0 (fun _ => true) true n' 25 ((cs.drop 11).take (Try.prog.cellsOf 25)) = xs[11]? := hfld 11 _ rfl
  have c0 : Try.prog.cellsOf 3 = 1 := by kernel_rfl
  have c1 : Try.prog.cellsOf 22 = 1 := by kernel_rfl
  have c2 : Try.prog.cellsOf 4 = 1 := by kernel_rfl
  have c3 : Try.prog.cellsOf 23 = 1 := by kernel_rfl
  have c4 : Try.prog.cellsOf 24 = 1 := by kernel_rfl
  have c5 : Try.prog.cellsOf 25 = 1 := by kernel_rfl
  have cr : Try.prog.cellsOf 27 = 12 := by kernel_rfl
  rw [cr] at hlen
  rw [c0] at f0
  rw [c1] at f1 f2 f3 f4 f5 f6 f7
  rw [c2] at f8
  rw [c3] at f9
  rw [c4] at f10
  rw [c5] at f11
  obtain ⟨u0, u1, u2, u3, u4, u5, u6, u7, u8, u9, u10, u11, rfl⟩ := twelve_cells cs hlen
  have l12 : xs.length = 12 := hxl
  rw [List.getElem?_eq_getElem (by omega)] at f0 f1 f2 f3 f4 f5 f6 f7 f8 f9 f10 f11
  obtain ⟨k, e0, -, w0⟩ := DataW.trod_int Try.underlying3 f0
  obtain ⟨k1, e1, -, w1⟩ := DataW.trod_int Try.underlying22 f1
  obtain ⟨k2, e2, -, w2⟩ := DataW.trod_int Try.underlying22 f2
  obtain ⟨k3, e3, -, w3⟩ := DataW.trod_int Try.underlying22 f3
  obtain ⟨k4, e4, -, w4⟩ := DataW.trod_int Try.underlying22 f4
  obtain ⟨k5, e5, -, w5⟩ := DataW.trod_int Try.underlying22 f5
  obtain ⟨k6, e6, -, w6⟩ := DataW.trod_int Try.underlying22 f6
  obtain ⟨k7, e7, -, w7⟩ := DataW.trod_int Try.underlying22 f7
  obtain ⟨b8, e8, -⟩ := DataW.trod_bool Try.underlying4 f8
  simp at e0 e1 e2 e3 e4 e5 e6 e7 e8
  have hk := bounds_i64 w0
  obtain ⟨f, rfl, hf⟩ := u64_nat k1 w1
  obtain ⟨o, rfl, ho⟩ := u64_nat k2 w2
  obtain ⟨t, rfl, ht⟩ := u64_nat k3 w3
  obtain ⟨i, rfl, hi⟩ := u64_nat k4 w4
  obtain ⟨l, rfl, hl⟩ := u64_nat k5 w5
  obtain ⟨c, rfl, hc⟩ := u64_nat k6 w6
  obtain ⟨s, rfl, hs⟩ := u64_nat k7 w7
  subst e0 e1 e2 e3 e4 e5 e6 e7 e8
  have hw : ∀ (j : Nat) (ty : TypeId) (d : DataW H), (x.1.weights Try.prog 27).all (· ≤ reachBytes) = true → [3, 22, 22, 22, 22, 22, 22, 22, 4, 23, 24, 25][j]? = some ty → (xs.map (·.1))[j]? = some d → (d.weights Try.prog ty).all (· ≤ reachBytes) = true := by
    rw [hx]
    simp only [DataW.weights, Try.underlying27]
    exact fun j ty d h h1 h2 => List.all_eq_true.2 fun n hn => List.all_eq_true.1 h n (DataW.weights_mem_each h1 h2 n hn)
  obtain ⟨us, hels, huo, huw⟩ := els_open f9
  obtain ⟨B, E, mm, rfl, hnu, hmb, hml⟩ := nums_in f10
  obtain ⟨A, C, g, rfl, hby, hgl⟩ := bytes_in f11
  refine ⟨⟨k, f, o, t, i, l, c, s, b8, us.map EE.e, mm, g⟩, u9, _, _, us, rfl, fun hh => ?_⟩
  have h9 := huw (hw 9 _ _ hh rfl (by rw [List.getElem?_map, List.getElem?_eq_getElem (by omega)]; rfl))
  have h10 := hml (hw 10 _ _ hh rfl (by rw [List.getElem?_map, List.getElem?_eq_getElem (by omega)]; rfl))
  have h11 := hgl (hw 11 _ _ hh rfl (by rw [List.getElem?_map, List.getElem?_eq_getElem (by omega)]; rfl))
  refine ⟨⟨⟨hk.1, Int.lt_of_le_of_lt hk.2 (by decide), hf, ho, ht, hi, hl, hc, hs, fun e he => ?_, hmb⟩, hels, h9.1, rfl, hnu, hby, by omega, ?_, h11⟩, h9.2.1, h10, h9.2.2⟩
  · obtain ⟨u, hu, rfl⟩ := List.mem_map.1 he
    exact huo u hu
  · exact Nat.le_trans h10 (by decide)
end Go.Proofs.Ytidapdooiibfnaa

/- Layer 18's laws, walked, over what msg's functions are shown to answer. -/
namespace Go.Proofs.Ytidapdooiibfnaa
end Go.Proofs.Ytidapdooiibfnaa

