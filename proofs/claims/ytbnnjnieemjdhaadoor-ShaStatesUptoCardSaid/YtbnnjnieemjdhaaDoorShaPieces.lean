/- ShaPieces: the walk. -/
import Derived.Test.YtbnnjnieemjdhaaDoorShaNarrows
namespace Go.Proofs.YtbnnjnieemjdhaaDoor
open Go.RowKit ShaMath Reg

theorem neq_hash (s t : Operand) (X : List UInt8) (hX : X.length = 32) (W : World) : (do eqGuard .neq 25 s t (.agg (bs X)) (.agg (bs X)); binOp .neq 25 (.agg (bs X)) (.agg (bs X)) : Sem Value).run Tryd.prog W = .ok (.bool false) W := by
  rw [Sem.run_bind, run_eqGuard_agg W .neq 25 s t _ _ (by kernel_rfl), Result.andThen_ok, run_neq_struct, eq_same W X hX]
  rfl

/-- A variable that holds a state of text t. -/
def VarSt (W : World) (g : Nat) (t : List UInt8) : Prop := ∃ cs, Blk W g 34 cs ∧ cs.size = 73 ∧ IsState (.agg cs) t
theorem VarSt.keep {W W' : World} {g : Nat} {t : List UInt8} (h : VarSt W g t) (hb : Below W.heap.size W W') : VarSt W' g t := by
  obtain ⟨cs, h1, h2, h3⟩ := h
  exact ⟨cs, h1.keep hb, h2, h3⟩
theorem VarSt.lt {W : World} {g : Nat} {t : List UInt8} (h : VarSt W g t) : g < W.heap.size := by
  obtain ⟨cs, h1, _⟩ := h
  exact h1.lt

def PiecesAt (w : World) (g : Nat) (l : List UInt8) (clen : Nat) (s6 s7 : Value) (wr : World) : Prop :=
  ∃ i at1 : Nat, i ≤ clen ∧ i ≤ 100 ∧ s7 = .int .i64 i ∧ s6 = .int .i64 at1 ∧ at1 ≤ l.length ∧ VarSt wr g (l.take at1) ∧ Below w.heap.size w wr

theorem row_at64 {w : World} {a : Option Addr} {len cap : Nat} {zs : List Int} (h : IsRow .i64 w a len cap zs) (i : Nat) (hi : i < len) : ∃ ad z, a = some ad ∧ w.cell? (ad.add i) = some (.int .i64 z) := by
  rcases h with ⟨_, rfl, _, _⟩ | ⟨x, rfl, hl, hm, hz, hc, hw⟩
  · omega
  · exact ⟨x, _, rfl, hc i (by omega)⟩

set_option maxHeartbeats 1000000 in
set_option maxRecDepth 100000 in
theorem pieces_walk (l : List UInt8) (a : Option Addr) (len cap : Nat) (ca : Option Addr) (clen ccap : Nat) (zs : List Int) (w : World) (hv : Bys w (.slice a len cap) l) (hll : l.length = len) (hlc : len ≤ cap) (hl : cap ≤ 140737488351232)
    (hcz : IsRow .i64 w ca clen ccap zs) (hcl : clen ≤ 140737488351232) (ht : Tabs w) :
    Calls Tryd.prog 5 #[.slice a len cap, .slice ca clen ccap] w fun e w' => e = .returned (.bool true) ∧ Below w.heap.size w w' := by
  have HV := Lib.hid hv
  have HLL := Lib.hid hll
  have HT := Lib.hid ht
  have HCZ := Lib.hid hcz
  clear hv hll ht hcz
  obtain ⟨zc, hzc⟩ : ∃ zc, zc = zeroState := ⟨_, rfl⟩
  have hzs : ∀ W, (zeroValue 34).run Tryd.prog W = .ok (.agg zc) W := fun W => by rw [hzc]; kernel_rfl
  have HI : Hid (zc.size = 73 ∧ IsState (.agg zc) []) := Lib.hid ⟨by rw [hzc]; kernel_rfl, List.replicate 8 0#32, List.replicate 64 0, by rw [hzc]; rfl, goodS_nil⟩
  clear hzc
  go_enter Tryd.func5, Tryd.ntmps5
  go_wp2_with fail
  refine (awake_any _ HT.out).mono ?_
  rintro e w1 ⟨rfl, hb1⟩
  have hs1 := hb1.size
  have HB1 := Lib.hid hb1
  clear hb1
  go_upto_region 4 with fail
  clear hzs
  refine world_cut (fun W => VarSt W w1.heap.size [] ∧ Below w.heap.size w W) ⟨⟨zc, Blk.newAt _ _ _ _ _ rfl rfl, HI.out.1, HI.out.2⟩, HB1.out.alloc hs1 _⟩ ?_
  obtain ⟨g5, hg5⟩ : ∃ g, g = w1.heap.size := ⟨_, rfl⟩
  rw [← hg5] at hs1 ⊢
  clear hg5 HB1 HI
  rintro W1 ⟨h1, h2⟩
  have H1 := Lib.hid h1
  have H2 := Lib.hid h2
  clear h1 h2
  go_wp2
  go_loopw [6, 7] (fun s6 s7 wr => PiecesAt w g5 l clen s6 s7 wr) (fun _ s7 _ => 200 - (intOf s7).toNat)
  case atStart => exact ⟨0, 0, Nat.zero_le _, by omega, rfl, rfl, Nat.zero_le _, H1.out, H2.out⟩
  case round =>
    obtain ⟨i, at1, hic, hi100, rfl, rfl, hat, hst, hbel⟩ := hrel
    rw [HLL.out] at hat
    have HSt := Lib.hid hst
    have HBel := Lib.hid hbel
    have hsz := hbel.size
    have hro : ∀ W, Below wr.heap.size wr W → Roots W := fun W hW => (HT.out.1.below (Nat.le_refl _) HBel.out).below (Nat.le_refl _) hW
    have hsx : ∀ W, Below wr.heap.size wr W → Starts W := fun W hW => (HT.out.2.below (Nat.le_refl _) HBel.out).below (Nat.le_refl _) hW
    have hby := HV.out.below (Nat.le_refl _) hbel
    have HBy := Lib.hid hby
    have HRo := Lib.hid hro
    have HSx := Lib.hid hsx
    clear hst hbel hro hsx hby
    by_cases hgo : i < clen ∧ i < 100
    · obtain ⟨hi1, hi2⟩ := hgo
      obtain ⟨ad, z, rfl, hcell0⟩ := row_at64 HCZ.out i hi1
      have hcell : wr.cell? (ad.add i) = some (.int .i64 z) := by rw [HBel.out.cell (World.block_lt_of_cell? w _ hcell0)]; exact hcell0
      obtain ⟨m1, hm1⟩ : ∃ m : Nat, IntKind.u64.wrap z = (m : Int) := ⟨(IntKind.u64.wrap z).toNat, by rw [IntKind.wrap_u64]; omega⟩
      obtain ⟨n, hn⟩ : ∃ n : Nat, (m1 : Int) % ((len : Int) - (at1 : Int) + 1) = (n : Int) := ⟨((m1 : Int) % ((len : Int) - (at1 : Int) + 1)).toNat, by rw [Int.toNat_of_nonneg (Int.emod_nonneg _ (by omega))]⟩
      have hnl : at1 + n ≤ len := by
        have := Int.emod_lt_of_pos (m1 : Int) (show (0 : Int) < (len : Int) - (at1 : Int) + 1 by omega)
        omega
      clear hcell0
      go_upto_region 9 with fail
      clear hcell hm1 hn
      obtain ⟨at2, hat2⟩ : ∃ at2, at2 = at1 + n := ⟨_, rfl⟩
      have hat2i : (at1 : Int) + (n : Int) = (at2 : Int) := by omega
      have hat2l : at2 ≤ len := by omega
      obtain ⟨a5, hsl, hb5⟩ := bys_mid a len cap at1 at2 l wr HBy.out (by omega) hat2l hlc
      obtain ⟨cs, hcb, hcz2, hcs⟩ := HSt.out
      have hpl : l.take at1 ++ (l.take at2).drop at1 = l.take at2 := by
        have h1 : (l.take at2).take at1 = l.take at1 := by rw [List.take_take, Nat.min_eq_left (by omega)]
        rw [← h1, List.take_append_drop]
      have hG : ∀ W W' : World, Below wr.heap.size wr W → Below W.heap.size W W' → Below wr.heap.size wr W' := fun W W' h h' => h.trans (h'.mono h.size)
      refine region_tail_by 8 _ [(34, .is (.agg cs)), (35, .is (.slice a len cap)), (36, .is (.int .i64 (at1 : Int))), (37, .is (.int .i64 (at1 : Int))), (38, .is (.int .i64 (n : Int))), (39, .is (.int .i64 (at2 : Int))), (40, .is (.slice a5 (at2 - at1) (cap - at1))), (41, .sat (fun v _ => IsState v (l.take at2)) (fun _ _ _ h _ => h))] [0, 1, 2, 3, 4, 5, 6, 7, 8, 9, 10, 52, 53, 54, 55, 56, 57, 58, 59, 60, 61, 62, 63, 64, 65, 66, 67, 68, 69, 41]
        (fun W => Below wr.heap.size wr W) (by kernel_rfl) (by kernel_rfl) (by kernel_rfl) (by kernel_rfl) (by kernel_rfl) rfl rfl rfl rfl (by kernel_rfl) (Below.refl _ _).drew ?_ ?_
      · refine ⟨?a0, ?a1, ?a2, ?a3, ?a4, ?a5, ?a6, ?a7, trivial⟩
        case a0 => exact ask_load (guard_none rfl) 34 (.tmp 5) (.pointer (some ⟨g5, 0, none⟩)) (.agg cs) rfl rfl (by intro k hk; cases hk; rfl) (fun W hW => (hcb.keep hW).loads _ _ Tryd.underlying34 rfl (by rw [hcz2]; kernel_rfl))
        case a1 => exact ask_copy (guard_none rfl) (.tmp 0) (.inl rfl) (by intro k hk; cases hk; rfl)
        case a2 => exact ask_copy (guard_none rfl) (.tmp 6) (.inl rfl) (by intro k hk; cases hk; rfl)
        case a3 => exact ask_copy (guard_none rfl) (.tmp 6) (.inl rfl) (by intro k hk; cases hk; rfl)
        case a4 => exact ask_copy (guard_none rfl) (.tmp 8) (.inl rfl) (by intro k hk; cases hk; rfl)
        case a5 => exact ask_bin (guard_none rfl) _ _ _ _ _ _ _ _ rfl rfl rfl (by intro k hk; cases hk; rfl) (fun W => by simp [eqGuard, go_sem]; rw [hat2i]; exact IntWalk.i64_in _ ⟨by omega, by omega⟩)
        case a6 => exact ask_slice (guard_none rfl) _ _ _ _ _ (.slice a len cap) _ (some (.int .i64 (at1 : Int))) (some (.int .i64 (at2 : Int))) none rfl rfl rfl rfl rfl (by intro k hk; cases hk; rfl) (fun W => hsl W)
        case a7 => exact ask_call_by hG (guard_none rfl) _ _ _ (.sat (fun v _ => IsState v (l.take at2)) (fun _ _ _ h _ => h)) rfl (by kernel_rfl) (by intro k hk; cases hk; rfl) (fun x W hW hk => by
          have e34 : x 34 = .agg cs := hk 34 rfl
          have e40 : x 40 = .slice a5 (at2 - at1) (cap - at1) := hk 40 rfl
          show Calls _ _ #[x 34, x 40] W _
          rw [e34, e40]
          refine (write_any (.agg cs) (l.take at1) ((l.take at2).drop at1) a5 _ _ W hcs (hb5.below (Nat.le_refl _) hW) (by omega) (by rw [List.length_take, List.length_drop, List.length_take, HLL.out]; omega) (HRo.out W hW) (HSx.out W hW)).mono ?_
          rintro e w' ⟨v, h1, h2, h3⟩
          exact ⟨v, h1, by rw [hpl] at h2; exact h2, h3⟩)
      intro a' W9 hW9 hd9 hs9 hf9
      have t0 : a'.tmps.getD 0 undef = .slice a len cap := hf9 0 rfl
      have t1 : a'.tmps.getD 1 undef = .slice (some ad) clen ccap := hf9 1 rfl
      have t2 : a'.tmps.getD 2 undef = undef := hf9 2 rfl
      have t3 : a'.tmps.getD 3 undef = undef := hf9 3 rfl
      have t4 : a'.tmps.getD 4 undef = u4 := hf9 4 rfl
      have t5 : a'.tmps.getD 5 undef = .pointer (some ⟨g5, 0, none⟩) := hf9 5 rfl
      have t6 : a'.tmps.getD 6 undef = .int .i64 (at1 : Int) := hf9 6 rfl
      have t7 : a'.tmps.getD 7 undef = .int .i64 (i : Int) := hf9 7 rfl
      have t8 : a'.tmps.getD 8 undef = .int .i64 (n : Int) := hf9 8 rfl
      have t9 : a'.tmps.getD 9 undef = .bool true := hf9 9 rfl
      have t10 : a'.tmps.getD 10 undef = .bool false := hf9 10 rfl
      have t52 : a'.tmps.getD 52 undef = undef := hf9 52 rfl
      have t53 : a'.tmps.getD 53 undef = undef := hf9 53 rfl
      have t54 : a'.tmps.getD 54 undef = undef := hf9 54 rfl
      have t55 : a'.tmps.getD 55 undef = undef := hf9 55 rfl
      have t56 : a'.tmps.getD 56 undef = undef := hf9 56 rfl
      have t57 : a'.tmps.getD 57 undef = undef := hf9 57 rfl
      have t58 : a'.tmps.getD 58 undef = undef := hf9 58 rfl
      have t59 : a'.tmps.getD 59 undef = undef := hf9 59 rfl
      have t60 : a'.tmps.getD 60 undef = undef := hf9 60 rfl
      have t61 : a'.tmps.getD 61 undef = undef := hf9 61 rfl
      have t62 : a'.tmps.getD 62 undef = undef := hf9 62 rfl
      have t63 : a'.tmps.getD 63 undef = undef := hf9 63 rfl
      have t64 : a'.tmps.getD 64 undef = undef := hf9 64 rfl
      have t65 : a'.tmps.getD 65 undef = undef := hf9 65 rfl
      have t66 : a'.tmps.getD 66 undef = undef := hf9 66 rfl
      have t67 : a'.tmps.getD 67 undef = undef := hf9 67 rfl
      have t68 : a'.tmps.getD 68 undef = undef := hf9 68 rfl
      have t69 : a'.tmps.getD 69 undef = undef := hf9 69 rfl
      obtain ⟨h41, r41, t41, hg41⟩ : IsState (a'.tmps.getD 41 undef) (l.take at2) := hf9 41 rfl
      obtain ⟨us9, hus, ha'⟩ := act_open 70 a' hs9 hd9
      rw [← hus] at t0 t1 t2 t3 t4 t5 t6 t7 t8 t9 t10 t52 t53 t54 t55 t56 t57 t58 t59 t60 t61 t62 t63 t64 t65 t66 t67 t68 t69 t41
      have el : ((List.range 70).map us9).toArray = #[us9 0, us9 1, us9 2, us9 3, us9 4, us9 5, us9 6, us9 7, us9 8, us9 9, us9 10, us9 11, us9 12, us9 13, us9 14, us9 15, us9 16, us9 17, us9 18, us9 19, us9 20, us9 21, us9 22, us9 23, us9 24, us9 25, us9 26, us9 27, us9 28, us9 29, us9 30, us9 31, us9 32, us9 33, us9 34, us9 35, us9 36, us9 37, us9 38, us9 39, us9 40, us9 41, us9 42, us9 43, us9 44, us9 45, us9 46, us9 47, us9 48, us9 49, us9 50, us9 51, us9 52, us9 53, us9 54, us9 55, us9 56, us9 57, us9 58, us9 59, us9 60, us9 61, us9 62, us9 63, us9 64, us9 65, us9 66, us9 67, us9 68, us9 69] := rfl
      rw [el] at ha'
      subst ha'
      rw [t0, t1, t2, t3, t4, t5, t6, t7, t8, t9, t10, t52, t53, t54, t55, t56, t57, t58, t59, t60, t61, t62, t63, t64, t65, t66, t67, t68, t69, t41]
      clear hus t0 t1 t2 t3 t4 t5 t6 t7 t8 t9 t10 t52 t53 t54 t55 t56 t57 t58 t59 t60 t61 t62 t63 t64 t65 t66 t67 t68 t69 t41 el
      have hvs := hcb.keep hW9
      obtain ⟨cs2, hcs2⟩ : ∃ cs2, cs2 = stC h41 r41 (l.take at2).length := ⟨_, rfl⟩
      have hc73 : cs2.size = 73 := by rw [hcs2]; exact stC_size _ hg41.1 hg41.2.1
      have hst2 : IsState (.agg cs2) (l.take at2) := ⟨h41, r41, by rw [hcs2], hg41⟩
      have hsto := hvs.stores (P := Tryd.prog) 34 cs2 (by rw [hc73]; kernel_rfl) (by rw [hcz2, hc73]) (by rw [hcs2]; exact stC_one _ _ _)
      have HSto := Lib.hid hsto
      rw [← hcs2]
      refine wpList_store_by rfl 34 (.tmp 5) (.tmp 41) rfl (.pointer (some ⟨g5, 0, none⟩)) (.agg cs2) rfl rfl (W9.setRow g5 cs2) HSto.out ?_
      go_upto_region 10 with fail
      refine world_cut (fun W => VarSt W g5 (l.take at2) ∧ Below w.heap.size w W) ?_ ?_
      · exact ⟨⟨cs2, hvs.row cs2, hc73, hst2⟩, below_setRow (HBel.out.trans (hW9.mono HBel.out.size)) _ _ hs1⟩
      clear hsl hb5 hcb hcz2 hcs hpl hG hW9 hvs hcs2 hc73 hst2 hsto HSto hg41 HSt HBel HRo HSx HBy hat2
      rintro Wa ⟨ha1, ha2⟩
      have HSt := Lib.hid ha1
      have HBel := Lib.hid ha2
      have hsz2 := ha2.size
      clear ha1 ha2
      go_upto_region 11 with fail
      clear hat2i
      obtain ⟨hh, hhh⟩ : ∃ hh, hh = ShaMath.hash (l.take at2) := ⟨_, rfl⟩
      have hhl : hh.length = 32 := by rw [hhh]; exact hash_length _
      obtain ⟨cs, hcb, hcz2, hcs⟩ := HSt.out
      have htk : (l.take at2).length ≤ 1125899906842624 := by rw [List.length_take, HLL.out]; omega
      have hro : ∀ W, Below Wa.heap.size Wa W → Roots W := fun W hW => (HT.out.1.below (Nat.le_refl _) HBel.out).below (Nat.le_refl _) hW
      have hsx : ∀ W, Below Wa.heap.size Wa W → Starts W := fun W hW => (HT.out.2.below (Nat.le_refl _) HBel.out).below (Nat.le_refl _) hW
      have hby : ∀ W, Below Wa.heap.size Wa W → Bys W (.slice a at2 cap) (l.take at2) := fun W hW => ((HV.out.below (Nat.le_refl _) HBel.out).below (Nat.le_refl _) hW).take at2 (by rw [HLL.out]; exact hat2l)
      have hG : ∀ W W' : World, Below Wa.heap.size Wa W → Below W.heap.size W W' → Below Wa.heap.size Wa W' := fun W W' h h' => h.trans (h'.mono h.size)
      refine region_by [(45, .is (.agg cs)), (46, .is (.agg (bs hh))), (47, .is (.slice a len cap)), (48, .is (.int .i64 (at2 : Int))), (49, .is (.slice a at2 cap)), (50, .is (.agg (bs hh))), (51, .is (.bool false))] [0, 1, 2, 3, 4, 5, 6, 7, 8, 9, 10, 52, 53, 54, 55, 56, 57, 58, 59, 60, 61, 62, 63, 64, 65, 66, 67, 68, 69, 51] (fun W => Below Wa.heap.size Wa W) (by kernel_rfl) (by kernel_rfl) (by kernel_rfl) (by kernel_rfl) (by kernel_rfl) (Below.refl _ _).drew ?_ ?_
      · refine ⟨?b0, ?b1, ?b2, ?b3, ?b4, ?b5, ?b6, trivial⟩
        case b0 => exact ask_load (guard_none rfl) 34 (.tmp 5) (.pointer (some ⟨g5, 0, none⟩)) (.agg cs) rfl rfl (by intro k hk; cases hk; rfl) (fun W hW => (hcb.keep hW).loads _ _ Tryd.underlying34 rfl (by rw [hcz2]; kernel_rfl))
        case b1 => exact ask_call hG (guard_none rfl) _ _ _ #[.agg cs] (.is (.agg (bs hh))) rfl (by kernel_rfl) rfl rfl (by intro k hk; cases hk; rfl) (fun W hW => (stateSum_any (.agg cs) (l.take at2) W hcs htk (hro W hW) (hsx W hW)).mono fun e w' h => ⟨_, h.1, by show _ = _; rw [hhh], h.2⟩)
        case b2 => exact ask_copy (guard_none rfl) (.tmp 0) (.inl rfl) (by intro k hk; cases hk; rfl)
        case b3 => exact ask_copy (guard_none rfl) (.tmp 6) (.inl rfl) (by intro k hk; cases hk; rfl)
        case b4 => exact ask_slice (guard_none rfl) _ _ _ _ _ (.slice a len cap) _ none (some (.int .i64 (at2 : Int))) none rfl rfl rfl rfl rfl (by intro k hk; cases hk; rfl) (fun W => slice_to a len cap at2 (by omega) W)
        case b5 => exact ask_call hG (guard_none rfl) _ _ _ #[.slice a at2 cap] (.is (.agg (bs hh))) rfl (by kernel_rfl) rfl rfl (by intro k hk; cases hk; rfl) (fun W hW => (sum_any (l.take at2) a at2 cap W (hby W hW) (by omega) htk (hro W hW) (hsx W hW)).mono fun e w' h => ⟨_, h.1, by show _ = _; rw [hhh], h.2⟩)
        case b6 => exact ask_cmp (guard_none rfl) _ _ _ _ _ _ _ _ rfl rfl rfl (by intro k hk; cases hk; rfl) (neq_hash _ _ hh hhl)
      intro a2 Wb hWb hd11 hs11 hf11
      have t0 : a2.tmps.getD 0 undef = .slice a len cap := hf11 0 rfl
      have t1 : a2.tmps.getD 1 undef = .slice (some ad) clen ccap := hf11 1 rfl
      have t2 : a2.tmps.getD 2 undef = undef := hf11 2 rfl
      have t3 : a2.tmps.getD 3 undef = undef := hf11 3 rfl
      have t4 : a2.tmps.getD 4 undef = u4 := hf11 4 rfl
      have t5 : a2.tmps.getD 5 undef = .pointer (some ⟨g5, 0, none⟩) := hf11 5 rfl
      have t6 : a2.tmps.getD 6 undef = .int .i64 (at2 : Int) := hf11 6 rfl
      have t7 : a2.tmps.getD 7 undef = .int .i64 (i : Int) := hf11 7 rfl
      have t8 : a2.tmps.getD 8 undef = .int .i64 (n : Int) := hf11 8 rfl
      have t9 : a2.tmps.getD 9 undef = .bool true := hf11 9 rfl
      have t10 : a2.tmps.getD 10 undef = .bool false := hf11 10 rfl
      have t52 : a2.tmps.getD 52 undef = undef := hf11 52 rfl
      have t53 : a2.tmps.getD 53 undef = undef := hf11 53 rfl
      have t54 : a2.tmps.getD 54 undef = undef := hf11 54 rfl
      have t55 : a2.tmps.getD 55 undef = undef := hf11 55 rfl
      have t56 : a2.tmps.getD 56 undef = undef := hf11 56 rfl
      have t57 : a2.tmps.getD 57 undef = undef := hf11 57 rfl
      have t58 : a2.tmps.getD 58 undef = undef := hf11 58 rfl
      have t59 : a2.tmps.getD 59 undef = undef := hf11 59 rfl
      have t60 : a2.tmps.getD 60 undef = undef := hf11 60 rfl
      have t61 : a2.tmps.getD 61 undef = undef := hf11 61 rfl
      have t62 : a2.tmps.getD 62 undef = undef := hf11 62 rfl
      have t63 : a2.tmps.getD 63 undef = undef := hf11 63 rfl
      have t64 : a2.tmps.getD 64 undef = undef := hf11 64 rfl
      have t65 : a2.tmps.getD 65 undef = undef := hf11 65 rfl
      have t66 : a2.tmps.getD 66 undef = undef := hf11 66 rfl
      have t67 : a2.tmps.getD 67 undef = undef := hf11 67 rfl
      have t68 : a2.tmps.getD 68 undef = undef := hf11 68 rfl
      have t69 : a2.tmps.getD 69 undef = undef := hf11 69 rfl
      have t51 : a2.tmps.getD 51 undef = .bool false := hf11 51 rfl
      obtain ⟨us11, hus, ha'⟩ := act_open 70 a2 hs11 hd11
      rw [← hus] at t0 t1 t2 t3 t4 t5 t6 t7 t8 t9 t10 t52 t53 t54 t55 t56 t57 t58 t59 t60 t61 t62 t63 t64 t65 t66 t67 t68 t69 t51
      have el : ((List.range 70).map us11).toArray = #[us11 0, us11 1, us11 2, us11 3, us11 4, us11 5, us11 6, us11 7, us11 8, us11 9, us11 10, us11 11, us11 12, us11 13, us11 14, us11 15, us11 16, us11 17, us11 18, us11 19, us11 20, us11 21, us11 22, us11 23, us11 24, us11 25, us11 26, us11 27, us11 28, us11 29, us11 30, us11 31, us11 32, us11 33, us11 34, us11 35, us11 36, us11 37, us11 38, us11 39, us11 40, us11 41, us11 42, us11 43, us11 44, us11 45, us11 46, us11 47, us11 48, us11 49, us11 50, us11 51, us11 52, us11 53, us11 54, us11 55, us11 56, us11 57, us11 58, us11 59, us11 60, us11 61, us11 62, us11 63, us11 64, us11 65, us11 66, us11 67, us11 68, us11 69] := rfl
      rw [el] at ha'
      subst ha'
      rw [t0, t1, t2, t3, t4, t5, t6, t7, t8, t9, t10, t52, t53, t54, t55, t56, t57, t58, t59, t60, t61, t62, t63, t64, t65, t66, t67, t68, t69, t51]
      clear hus t0 t1 t2 t3 t4 t5 t6 t7 t8 t9 t10 t52 t53 t54 t55 t56 t57 t58 t59 t60 t61 t62 t63 t64 t65 t66 t67 t68 t69 t51 el
      have hvs : VarSt Wb g5 (l.take at2) := VarSt.keep ⟨cs, hcb, hcz2, hcs⟩ hWb
      have hbb := HBel.out.trans (hWb.mono hsz2)
      have HVs := Lib.hid hvs
      have HBb := Lib.hid hbb
      clear hhh hhl hcb hcz2 hcs htk hro hsx hby hG hWb hvs hbb HSt HBel
      go_wp2
      go_roundw
      case rel => exact ⟨i + 1, at2, by omega, by omega, by go_num, rfl, by rw [HLL.out]; exact hat2l, HVs.out, HBb.out⟩
      case measure => simp [intOf]; omega
    · have hgo2 : (clen : Int) ≤ (i : Int) ∨ ((i : Int) < (clen : Int) ∧ i = 100) := by omega
      clear hgo
      obtain ⟨a6, hsl, hb6⟩ := bys_from a len cap at1 l wr HBy.out HLL.out hlc hat
      obtain ⟨cs, hcb, hcz2, hcs⟩ := HSt.out
      have hpl : l.take at1 ++ l.drop at1 = l := List.take_append_drop _ _
      have hG : ∀ W W' : World, Below wr.heap.size wr W → Below W.heap.size W W' → Below wr.heap.size wr W' := fun W W' h h' => h.trans (h'.mono h.size)
      have HSl := Lib.hid hsl
      have HB6 := Lib.hid hb6
      have HCb := Lib.hid hcb
      have HCz := Lib.hid hcz2
      have HCs := Lib.hid hcs
      have HPl := Lib.hid hpl
      have HG := Lib.hid hG
      clear hsl hb6 hcb hcz2 hcs hpl hG
      rcases hgo2 with hge | ⟨hlt1, h100⟩
      · have hd1 : decide ((i : Int) < (clen : Int)) = false := by rw [decide_eq_false_iff_not]; omega
        go_upto_region 13 with fail
        clear hd1
        refine region_tail_by 5 _ [(52, .is (.agg cs)), (53, .is (.slice a len cap)), (54, .is (.int .i64 (at1 : Int))), (55, .is (.slice a6 (len - at1) (cap - at1))), (56, .sat (fun v _ => IsState v l) (fun _ _ _ h _ => h))] [0, 5, 56]
          (fun W => Below wr.heap.size wr W) (by kernel_rfl) (by kernel_rfl) (by kernel_rfl) (by kernel_rfl) (by kernel_rfl) rfl rfl rfl rfl (by kernel_rfl) (Below.refl _ _).drew ?_ ?_
        · refine ⟨?c0, ?c1, ?c2, ?c3, ?c4, trivial⟩
          case c0 => exact ask_load (guard_none rfl) 34 (.tmp 5) (.pointer (some ⟨g5, 0, none⟩)) (.agg cs) rfl rfl (by intro k hk; cases hk; rfl) (fun W hW => (HCb.out.keep hW).loads _ _ Tryd.underlying34 rfl (by rw [HCz.out]; kernel_rfl))
          case c1 => exact ask_copy (guard_none rfl) (.tmp 0) (.inl rfl) (by intro k hk; cases hk; rfl)
          case c2 => exact ask_copy (guard_none rfl) (.tmp 6) (.inl rfl) (by intro k hk; cases hk; rfl)
          case c3 => exact ask_slice (guard_none rfl) _ _ _ _ _ (.slice a len cap) _ (some (.int .i64 (at1 : Int))) none none rfl rfl rfl rfl rfl (by intro k hk; cases hk; rfl) (fun W => HSl.out W)
          case c4 => exact ask_call_by HG.out (guard_none rfl) _ _ _ (.sat (fun v _ => IsState v l) (fun _ _ _ h _ => h)) rfl (by kernel_rfl) (by intro k hk; cases hk; rfl) (fun x W hW hk => by
            have e52 : x 52 = .agg cs := hk 52 rfl
            have e55 : x 55 = .slice a6 (len - at1) (cap - at1) := hk 55 rfl
            show Calls _ _ #[x 52, x 55] W _
            rw [e52, e55]
            refine (write_any (.agg cs) (l.take at1) (l.drop at1) a6 _ _ W HCs.out (HB6.out.below (Nat.le_refl _) hW) (by omega) (by rw [← List.length_append, HPl.out, HLL.out]; omega) (HRo.out W hW) (HSx.out W hW)).mono ?_
            rintro e w' ⟨v, h1, h2, h3⟩
            exact ⟨v, h1, by rw [HPl.out] at h2; exact h2, h3⟩)
        intro a' W9 hW9 hd9 hs9 hf9
        have t0 : a'.tmps.getD 0 undef = .slice a len cap := hf9 0 rfl
        have t5 : a'.tmps.getD 5 undef = .pointer (some ⟨g5, 0, none⟩) := hf9 5 rfl
        obtain ⟨h56, r56, t56, hg56⟩ : IsState (a'.tmps.getD 56 undef) l := hf9 56 rfl
        obtain ⟨us9, hus, ha'⟩ := act_open 70 a' hs9 hd9
        rw [← hus] at t0 t5 t56
        have el : ((List.range 70).map us9).toArray = #[us9 0, us9 1, us9 2, us9 3, us9 4, us9 5, us9 6, us9 7, us9 8, us9 9, us9 10, us9 11, us9 12, us9 13, us9 14, us9 15, us9 16, us9 17, us9 18, us9 19, us9 20, us9 21, us9 22, us9 23, us9 24, us9 25, us9 26, us9 27, us9 28, us9 29, us9 30, us9 31, us9 32, us9 33, us9 34, us9 35, us9 36, us9 37, us9 38, us9 39, us9 40, us9 41, us9 42, us9 43, us9 44, us9 45, us9 46, us9 47, us9 48, us9 49, us9 50, us9 51, us9 52, us9 53, us9 54, us9 55, us9 56, us9 57, us9 58, us9 59, us9 60, us9 61, us9 62, us9 63, us9 64, us9 65, us9 66, us9 67, us9 68, us9 69] := rfl
        rw [el] at ha'
        subst ha'
        rw [t0, t5, t56]
        clear hus t0 t5 t56 el
        have hvs := HCb.out.keep hW9
        obtain ⟨cs2, hcs2⟩ : ∃ cs2, cs2 = stC h56 r56 l.length := ⟨_, rfl⟩
        have hc73 : cs2.size = 73 := by rw [hcs2]; exact stC_size _ hg56.1 hg56.2.1
        have hst2 : IsState (.agg cs2) l := ⟨h56, r56, by rw [hcs2], hg56⟩
        have hlen : ∀ W, Calls Tryd.prog 13 #[.agg cs2] W fun e w' => e = .returned (.int .u64 (len : Int)) ∧ Below W.heap.size W w' := fun W => by
          rw [hcs2, ← HLL.out]
          exact len_any h56 r56 l.length W hg56.1 hg56.2.1
        have hsto := hvs.stores (P := Tryd.prog) 34 cs2 (by rw [hc73]; kernel_rfl) (by rw [HCz.out, hc73]) (by rw [hcs2]; exact stC_one _ _ _)
        have HSto := Lib.hid hsto
        rw [← hcs2]
        refine wpList_store_by rfl 34 (.tmp 5) (.tmp 56) rfl (.pointer (some ⟨g5, 0, none⟩)) (.agg cs2) rfl rfl (W9.setRow g5 cs2) HSto.out ?_
        go_upto_region 14 with fail
        refine world_cut (fun W => Blk W g5 34 cs2 ∧ Below w.heap.size w W) ?_ ?_
        · exact ⟨hvs.row cs2, below_setRow (HBel.out.trans (hW9.mono HBel.out.size)) _ _ hs1⟩
        have hszc : (Tryd.prog.info? 34).map (·.size) = some cs2.size := by rw [hc73]; kernel_rfl
        have HSzc := Lib.hid hszc
        have HSt2 := Lib.hid hst2
        have HLen := Lib.hid hlen
        clear hvs hcs2 hc73 hst2 hlen hsto HSto hg56 hszc HSl HB6 HCb HCz HCs HPl HG HSt HBel HRo HSx HBy
        rintro Wa ⟨ha1, ha2⟩
        obtain ⟨hh, hhh⟩ : ∃ hh, hh = bs (ShaMath.hash l) := ⟨_, rfl⟩
        have heq : ∀ W', (Op.equalIn 10000 25 (.agg hh) (.agg hh)).run Tryd.prog W' = .ok true W' := fun W' => by rw [hhh]; exact eq_same W' _ (hash_length l)
        have hts : ∀ W, Below w.heap.size w W → Tabs W := fun W hW => HT.out.below (Nat.le_refl _) hW
        have hss : ∀ W, Below w.heap.size w W → Calls Tryd.prog 12 #[.agg cs2] W fun e w' => e = .returned (.agg hh) ∧ Below W.heap.size W w' := fun W hW => by rw [hhh]; exact stateSum_any (.agg cs2) l W HSt2.out (by rw [HLL.out]; omega) (hts W hW).1 (hts W hW).2
        have hsb : ∀ W, Below w.heap.size w W → Calls Tryd.prog 9 #[.slice a len cap] W fun e w' => e = .returned (.agg hh) ∧ Below W.heap.size W w' := fun W hW => by rw [hhh]; exact sum_any l a len cap W (HV.out.below (Nat.le_refl _) hW) hlc (by rw [HLL.out]; omega) (hts W hW).1 (hts W hW).2
        have HA1 := Lib.hid ha1
        have HA2 := Lib.hid ha2
        have HSs := Lib.hid hss
        have HSb := Lib.hid hsb
        have HEq := Lib.hid heq
        clear ha1 ha2 hhh heq hts hss hsb HSt2
        go_wp2_with (refine wpList_load_row rfl 34 (.tmp 5) rfl g5 rfl 34 cs2 (0, 0) _ HA1.out Tryd.underlying34 rfl HSzc.out ?_)
        refine (HLen.out _).mono ?_
        rintro e w4 ⟨rfl, hb4⟩
        have HB4 := Lib.hid (HA2.out.trans (hb4.mono HA2.out.size))
        have HLd := Lib.hid ((HA1.out.keep hb4).loads (P := Tryd.prog) 34 _ Tryd.underlying34 rfl HSzc.out)
        clear hb4
        go_wp2_with (refine wpList_load_guarded rfl 34 (.tmp 5) rfl (.pointer (some ⟨g5, 0, none⟩)) (.agg cs2) rfl HLd.out ?_)
        refine (HSs.out _ HB4.out).mono ?_
        rintro e w5 ⟨rfl, hb5⟩
        have HB5 := Lib.hid (HB4.out.trans (hb5.mono HB4.out.size))
        clear hb5
        go_wp2_with fail
        refine (HSb.out _ HB5.out).mono ?_
        rintro e w6 ⟨rfl, hb6⟩
        have HB6 := Lib.hid (HB5.out.trans (hb6.mono HB5.out.size))
        clear hb6
        have he := HEq.out
        go_wp2
        go_ret
        exact ⟨rfl, HB6.out⟩
      · have hd2 : decide ((i : Int) < 100) = false := by rw [decide_eq_false_iff_not]; omega
        go_upto_region 13 with fail
        clear hd2
        refine region_tail_by 5 _ [(52, .is (.agg cs)), (53, .is (.slice a len cap)), (54, .is (.int .i64 (at1 : Int))), (55, .is (.slice a6 (len - at1) (cap - at1))), (56, .sat (fun v _ => IsState v l) (fun _ _ _ h _ => h))] [0, 5, 56]
          (fun W => Below wr.heap.size wr W) (by kernel_rfl) (by kernel_rfl) (by kernel_rfl) (by kernel_rfl) (by kernel_rfl) rfl rfl rfl rfl (by kernel_rfl) (Below.refl _ _).drew ?_ ?_
        · refine ⟨?c0, ?c1, ?c2, ?c3, ?c4, trivial⟩
          case c0 => exact ask_load (guard_none rfl) 34 (.tmp 5) (.pointer (some ⟨g5, 0, none⟩)) (.agg cs) rfl rfl (by intro k hk; cases hk; rfl) (fun W hW => (HCb.out.keep hW).loads _ _ Tryd.underlying34 rfl (by rw [HCz.out]; kernel_rfl))
          case c1 => exact ask_copy (guard_none rfl) (.tmp 0) (.inl rfl) (by intro k hk; cases hk; rfl)
          case c2 => exact ask_copy (guard_none rfl) (.tmp 6) (.inl rfl) (by intro k hk; cases hk; rfl)
          case c3 => exact ask_slice (guard_none rfl) _ _ _ _ _ (.slice a len cap) _ (some (.int .i64 (at1 : Int))) none none rfl rfl rfl rfl rfl (by intro k hk; cases hk; rfl) (fun W => HSl.out W)
          case c4 => exact ask_call_by HG.out (guard_none rfl) _ _ _ (.sat (fun v _ => IsState v l) (fun _ _ _ h _ => h)) rfl (by kernel_rfl) (by intro k hk; cases hk; rfl) (fun x W hW hk => by
            have e52 : x 52 = .agg cs := hk 52 rfl
            have e55 : x 55 = .slice a6 (len - at1) (cap - at1) := hk 55 rfl
            show Calls _ _ #[x 52, x 55] W _
            rw [e52, e55]
            refine (write_any (.agg cs) (l.take at1) (l.drop at1) a6 _ _ W HCs.out (HB6.out.below (Nat.le_refl _) hW) (by omega) (by rw [← List.length_append, HPl.out, HLL.out]; omega) (HRo.out W hW) (HSx.out W hW)).mono ?_
            rintro e w' ⟨v, h1, h2, h3⟩
            exact ⟨v, h1, by rw [HPl.out] at h2; exact h2, h3⟩)
        intro a' W9 hW9 hd9 hs9 hf9
        have t0 : a'.tmps.getD 0 undef = .slice a len cap := hf9 0 rfl
        have t5 : a'.tmps.getD 5 undef = .pointer (some ⟨g5, 0, none⟩) := hf9 5 rfl
        obtain ⟨h56, r56, t56, hg56⟩ : IsState (a'.tmps.getD 56 undef) l := hf9 56 rfl
        obtain ⟨us9, hus, ha'⟩ := act_open 70 a' hs9 hd9
        rw [← hus] at t0 t5 t56
        have el : ((List.range 70).map us9).toArray = #[us9 0, us9 1, us9 2, us9 3, us9 4, us9 5, us9 6, us9 7, us9 8, us9 9, us9 10, us9 11, us9 12, us9 13, us9 14, us9 15, us9 16, us9 17, us9 18, us9 19, us9 20, us9 21, us9 22, us9 23, us9 24, us9 25, us9 26, us9 27, us9 28, us9 29, us9 30, us9 31, us9 32, us9 33, us9 34, us9 35, us9 36, us9 37, us9 38, us9 39, us9 40, us9 41, us9 42, us9 43, us9 44, us9 45, us9 46, us9 47, us9 48, us9 49, us9 50, us9 51, us9 52, us9 53, us9 54, us9 55, us9 56, us9 57, us9 58, us9 59, us9 60, us9 61, us9 62, us9 63, us9 64, us9 65, us9 66, us9 67, us9 68, us9 69] := rfl
        rw [el] at ha'
        subst ha'
        rw [t0, t5, t56]
        clear hus t0 t5 t56 el
        have hvs := HCb.out.keep hW9
        obtain ⟨cs2, hcs2⟩ : ∃ cs2, cs2 = stC h56 r56 l.length := ⟨_, rfl⟩
        have hc73 : cs2.size = 73 := by rw [hcs2]; exact stC_size _ hg56.1 hg56.2.1
        have hst2 : IsState (.agg cs2) l := ⟨h56, r56, by rw [hcs2], hg56⟩
        have hlen : ∀ W, Calls Tryd.prog 13 #[.agg cs2] W fun e w' => e = .returned (.int .u64 (len : Int)) ∧ Below W.heap.size W w' := fun W => by
          rw [hcs2, ← HLL.out]
          exact len_any h56 r56 l.length W hg56.1 hg56.2.1
        have hsto := hvs.stores (P := Tryd.prog) 34 cs2 (by rw [hc73]; kernel_rfl) (by rw [HCz.out, hc73]) (by rw [hcs2]; exact stC_one _ _ _)
        have HSto := Lib.hid hsto
        rw [← hcs2]
        refine wpList_store_by rfl 34 (.tmp 5) (.tmp 56) rfl (.pointer (some ⟨g5, 0, none⟩)) (.agg cs2) rfl rfl (W9.setRow g5 cs2) HSto.out ?_
        go_upto_region 14 with fail
        refine world_cut (fun W => Blk W g5 34 cs2 ∧ Below w.heap.size w W) ?_ ?_
        · exact ⟨hvs.row cs2, below_setRow (HBel.out.trans (hW9.mono HBel.out.size)) _ _ hs1⟩
        have hszc : (Tryd.prog.info? 34).map (·.size) = some cs2.size := by rw [hc73]; kernel_rfl
        have HSzc := Lib.hid hszc
        have HSt2 := Lib.hid hst2
        have HLen := Lib.hid hlen
        clear hvs hcs2 hc73 hst2 hlen hsto HSto hg56 hszc HSl HB6 HCb HCz HCs HPl HG HSt HBel HRo HSx HBy
        rintro Wa ⟨ha1, ha2⟩
        obtain ⟨hh, hhh⟩ : ∃ hh, hh = bs (ShaMath.hash l) := ⟨_, rfl⟩
        have heq : ∀ W', (Op.equalIn 10000 25 (.agg hh) (.agg hh)).run Tryd.prog W' = .ok true W' := fun W' => by rw [hhh]; exact eq_same W' _ (hash_length l)
        have hts : ∀ W, Below w.heap.size w W → Tabs W := fun W hW => HT.out.below (Nat.le_refl _) hW
        have hss : ∀ W, Below w.heap.size w W → Calls Tryd.prog 12 #[.agg cs2] W fun e w' => e = .returned (.agg hh) ∧ Below W.heap.size W w' := fun W hW => by rw [hhh]; exact stateSum_any (.agg cs2) l W HSt2.out (by rw [HLL.out]; omega) (hts W hW).1 (hts W hW).2
        have hsb : ∀ W, Below w.heap.size w W → Calls Tryd.prog 9 #[.slice a len cap] W fun e w' => e = .returned (.agg hh) ∧ Below W.heap.size W w' := fun W hW => by rw [hhh]; exact sum_any l a len cap W (HV.out.below (Nat.le_refl _) hW) hlc (by rw [HLL.out]; omega) (hts W hW).1 (hts W hW).2
        have HA1 := Lib.hid ha1
        have HA2 := Lib.hid ha2
        have HSs := Lib.hid hss
        have HSb := Lib.hid hsb
        have HEq := Lib.hid heq
        clear ha1 ha2 hhh heq hts hss hsb HSt2
        go_wp2_with (refine wpList_load_row rfl 34 (.tmp 5) rfl g5 rfl 34 cs2 (0, 0) _ HA1.out Tryd.underlying34 rfl HSzc.out ?_)
        refine (HLen.out _).mono ?_
        rintro e w4 ⟨rfl, hb4⟩
        have HB4 := Lib.hid (HA2.out.trans (hb4.mono HA2.out.size))
        have HLd := Lib.hid ((HA1.out.keep hb4).loads (P := Tryd.prog) 34 _ Tryd.underlying34 rfl HSzc.out)
        clear hb4
        go_wp2_with (refine wpList_load_guarded rfl 34 (.tmp 5) rfl (.pointer (some ⟨g5, 0, none⟩)) (.agg cs2) rfl HLd.out ?_)
        refine (HSs.out _ HB4.out).mono ?_
        rintro e w5 ⟨rfl, hb5⟩
        have HB5 := Lib.hid (HB4.out.trans (hb5.mono HB4.out.size))
        clear hb5
        go_wp2_with fail
        refine (HSb.out _ HB5.out).mono ?_
        rintro e w6 ⟨rfl, hb6⟩
        have HB6 := Lib.hid (HB5.out.trans (hb6.mono HB5.out.size))
        clear hb6
        have he := HEq.out
        go_wp2
        go_ret
        exact ⟨rfl, HB6.out⟩

theorem pieces_all (w : World) (ht : Tabs w) (a : Option Addr) (len cap : Nat) (z : List Int) (hz : IsRow .u8 w a len cap z) (sz : cap * 1 ≤ 140737488351232) (ca : Option Addr) (clen ccap : Nat) (zc : List Int) (hzc : IsRow .i64 w ca clen ccap zc) (szc : ccap * 8 ≤ 140737488351232) :
    Calls Tryd.prog 5 #[.slice a len cap, .slice ca clen ccap] w fun e w' => e = .returned (.bool true) ∧ Below w.heap.size w w' := by
  obtain ⟨l, hl, hb⟩ := hz.bys
  have h1 := hz.le
  have h2 := hzc.le
  exact pieces_walk l a len cap ca clen ccap zc w hb hl h1 (by omega) hzc (by omega) ht
end Go.Proofs.YtbnnjnieemjdhaaDoor
