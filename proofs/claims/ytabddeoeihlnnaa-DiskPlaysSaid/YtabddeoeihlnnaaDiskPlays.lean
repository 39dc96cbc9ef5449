/- DiskPlays: the walk. -/
import Derived.Test.YtabddeoeihlnnaaDiskStep
namespace Go.Proofs.Ytabddeoeihlnnaa
open Go.RowKit Go.Maps DiskMath Reg

set_option maxHeartbeats 1000000 in
set_option maxRecDepth 100000 in
theorem plays_walk (room : Int) (w : World) (a : Option Addr) (len cap : Nat) (L : List LOp) (hl : L.length = len) (hs : ScriptAt w a L) :
    Calls Try.prog 3 #[.int .i64 room, .slice a len cap] w fun e w' => e = .returned (.bool true) ∧ Below w.heap.size w w' := by
  have HS := Lib.hid hs
  have HL := Lib.hid hl
  have HAw := Lib.hid (fun W => dawake_any W)
  clear hs hl
  go_enter Try.func3, Try.ntmps3
  go_wp2_with fail
  refine (HAw.out w).mono ?_
  rintro e w1 ⟨rfl, hb1⟩
  have HB1 := Lib.hid hb1
  have HFew := Lib.hid (few_any (cap := cap) (HS.out.below hb1) HL.out)
  clear hb1
  go_wp2_with fail
  refine HFew.out.mono ?_
  rintro e w' ⟨⟨t, rfl, hfew⟩, rfl⟩
  cases t with
  | false =>
    clear hfew
    go_wp2_with fail
    refine (HAw.out w1).mono ?_
    rintro e w2 ⟨rfl, hb2⟩
    have HB2 := Lib.hid (HB1.out.trans (hb2.mono HB1.out.size))
    clear hb2
    go_wp2
    go_ret
    exact ⟨rfl, HB2.out⟩
  | true =>
    have HF := Lib.hid (hfew rfl)
    clear hfew
    go_wp2_with fail
    refine (new_any w1 room).mono ?_
    rintro e w2 ⟨d, rfl, hd, hb2⟩
    have HD := Lib.hid hd
    have HB2 := Lib.hid hb2
    clear hd hb2
    go_wp2_with fail
    refine (newr_any w2 room).mono ?_
    rintro e w3 ⟨r, rfl, hr, hb3⟩
    have HTwo := Lib.hid (two_new HB1.out HD.out HB2.out hr hb3)
    clear hr hb3 HD HB2
    go_wp2
    go_loopw [7] (fun s7 wr => ∃ (i : Nat) (s : St), i ≤ len ∧ i ≤ 60 ∧ s7 = .int .i64 i ∧ Hid (∃ T S, Two w wr T S d r i i s s)) (fun s7 _ => 60 - (intOf s7).toNat)
    case atStart => exact ⟨0, St.new room, Nat.zero_le _, Nat.zero_le _, rfl, Lib.hid ⟨_, _, HTwo.out⟩⟩
    case round =>
      obtain ⟨i, s, hi, hi60, rfl, HT⟩ := hrel
      have i0 : (0 : Int) ≤ (i : Int) := Int.natCast_nonneg _
      by_cases hlt : i < len
      · have i1 : (i : Int) < (len : Int) := by omega
        have i2 : decide (i < len) = true := by simpa using hlt
        by_cases h60 : i < 60
        · have i3 : decide ((i : Int) < 60) = true := by simp; omega
          obtain ⟨T, S, hT⟩ := HT.out
          have HTw := Lib.hid hT
          obtain ⟨o, ho⟩ : ∃ o, L[i]? = some o := ⟨L[i]'(by have := HL.out; omega), List.getElem?_eq_getElem _⟩
          obtain ⟨hok, ad, A, C, KA, KC, rfl, c0, c1, c2, c3, c4, c5, hby, hbl⟩ := HS.out i o ho
          have hidx : ∀ W, (Instr.indexAt 22 (.slice (some ad) len cap) (.int .i64 (i : Int))).run Try.prog W = .ok (.pointer (some (ad.add (i * 6)))) W := fun W => script_index W ad len cap i hlt
          obtain ⟨p, hp⟩ : ∃ p, p = ad.add (i * 6) := ⟨_, rfl⟩
          rw [← hp] at hidx c0 c1 c2 c3 c4 c5
          have hdo := ldo_any hT (by omega) hok (HF.out i o ho h60) hby hbl
          have HOk := Lib.hid hok
          obtain ⟨N, hN⟩ : ∃ N, nm o.name = .string N := ⟨_, rfl⟩
          obtain ⟨M, hM⟩ : ∃ M, nm o.q = .string M := ⟨_, rfl⟩
          obtain ⟨s1, hs1⟩ : ∃ s1, s1 = stepA (kindA o.kind) o s := ⟨_, rfl⟩
          obtain ⟨kd, hkd⟩ : ∃ kd, kd = o.kind := ⟨_, rfl⟩
          obtain ⟨on, hon⟩ : ∃ on, on = o.n := ⟨_, rfl⟩
          obtain ⟨bl, hbl2⟩ : ∃ bl, bl = o.b.length := ⟨_, rfl⟩
          obtain ⟨kl, hkl⟩ : ∃ kl, kl = o.keep.length := ⟨_, rfl⟩
          rw [hN] at c1
          rw [hM] at c2
          rw [hN, hM, ← hs1, ← hkd, ← hon, ← hbl2, ← hkl] at hdo
          rw [← hkd] at c0
          rw [← hon] at c3
          rw [← hbl2] at c4
          rw [← hkl] at c5
          have HDo := Lib.hid hdo
          have HN := Lib.hid hN
          have HCl : Hid (∀ W, Below w.heap.size w W → W.cell? p = some (.int .i64 kd) ∧ W.cell? ⟨p.block, p.off + 1, none⟩ = some (.string N) ∧ W.cell? ⟨p.block, p.off + 2, none⟩ = some (.string M) ∧ W.cell? ⟨p.block, p.off + 3, none⟩ = some (.int .i64 on) ∧ W.cell? ⟨p.block, p.off + 4, none⟩ = some (.slice A bl C) ∧ W.cell? ⟨p.block, p.off + 5, none⟩ = some (.slice KA kl KC)) := Lib.hid fun W hW => by
            have hc : ∀ {q : Addr} {u : Value}, w.cell? q = some u → W.cell? q = some u := fun {q u} hq => by rw [hW.cell (World.block_lt_of_cell? w _ hq)]; exact hq
            exact ⟨hc c0, hc c1, hc c2, hc c3, hc c4, hc c5⟩
          clear c0 c1 c2 c3 c4 c5
          obtain ⟨c0, c1, c2, c3, c4, c5⟩ := HCl.out wr hT.bel
          clear hok hby hbl hp hdo hN hM hs1 hkd hon hbl2 hkl hT HT ho
          go_wp2_with fail
          refine HDo.out.mono ?_
          rintro e w4 ⟨rfl, hdid⟩
          obtain ⟨T4, S4, hT4, -, -⟩ := hdid.ex
          have hread := read_any hT4.disk (n := o.name) HOk.out.name
          have hreadr : ∀ W, Below w4.heap.size w4 W → Calls Try.prog 14 #[dp r, nm o.name] W fun e w' => ∃ v, e = .returned (.tuple #[v, .int .i64 ((s1.read o.name).1 : Int)]) ∧ Row W 0 v (s1.read o.name).2 ∧ W = w' := fun W hW => by
            obtain ⟨fv, sv, ov, F1, F2, G, hr4, -⟩ := hT4.ref.ex
            exact readr_any (hr4.same fun k hk => hW.block k (hr4.lt hk))
          obtain ⟨y, hy⟩ : ∃ y, y = s1.read o.name := ⟨_, rfl⟩
          rw [← hy, HN.out] at hread hreadr
          have HRead := Lib.hid hread
          have HReadr := Lib.hid hreadr
          have HT4 := Lib.hid hT4
          clear c0 c1 c2 c3 c4 c5
          obtain ⟨-, c1, -⟩ := HCl.out w4 hT4.bel
          clear hdid hT4 hread hreadr hy
          go_wp2_with fail
          refine HRead.out.mono ?_
          rintro e w5 ⟨v, rfl, hr5, hb5⟩
          obtain ⟨va, vc, rfl⟩ := slice_of_row hr5
          have hcv := conv_bys hr5.bys
          have HRR := Lib.hid (HReadr.out w5 hb5)
          have HT5 := Lib.hid (HT4.out.below hb5)
          clear c1
          obtain ⟨-, c1, -⟩ := HCl.out w5 HT5.out.bel
          clear hr5 hb5 HReadr HRead HT4
          go_wp2_with fail
          refine HRR.out.mono ?_
          rintro e w6 ⟨v', rfl, hr6, rfl⟩
          have hcv2 := conv_bys hr6.bys
          clear hr6 HRR
          go_wp2
          go_roundw
          case rel => exact ⟨i + 1, s1, by omega, by omega, by go_num, Lib.hid ⟨_, _, HT5.out⟩⟩
          case measure => simp [intOf]; omega
        · have i3 : decide ((i : Int) < 60) = false := by simp; omega
          obtain ⟨T, S, hT⟩ := HT.out
          have HE := Lib.hid hT.bel
          clear hT HT
          go_wp2
          go_ret
          exact ⟨rfl, HE.out⟩
      · have i1 : decide ((i : Int) < (len : Int)) = false := by simp; omega
        have i2 : decide (i < len) = false := by simpa using hlt
        obtain ⟨T, S, hT⟩ := HT.out
        have HE := Lib.hid hT.bel
        clear hT HT
        go_wp2
        go_ret
        exact ⟨rfl, HE.out⟩

theorem plays_all (w : World) (room : Int) (_ : (Lit.int .i64 room).wf = true) (a : Option Addr) (len cap : Nat) (L : List LOp) (hl : L.length = len) (hs : ScriptAt w a L) (_ : len ≤ 9223372036854775807 ∧ True) :
    Calls Try.prog 3 #[.int .i64 room, .slice a len cap] w fun e w' => e = .returned (.bool true) ∧ Below w.heap.size w w' := plays_walk room w a len cap L hl hs
end Go.Proofs.Ytabddeoeihlnnaa
