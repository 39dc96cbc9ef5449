/- The reference's Crash. -/
import Derived.Test.YtabddeoeihlnnaaRefKept
namespace Go.Proofs.Ytabddeoeihlnnaa
open Go.RowKit Go.Maps DiskMath Reg

theorem cellsR_at : ∀ (G : Go8) (i : Nat) (p : AOp × Value), G[i]? = some p → ∀ j u, (rC p.1 p.2)[j]? = some u → (cellsR G)[i * 5 + j]? = some u
  | [], i, p, h, _, _, _ => by simp at h
  | x :: r, 0, p, h, j, u, hu => by
    simp at h
    subst h
    have hj : j < 5 := by
      have := (Array.getElem?_eq_some_iff.1 hu).1
      simpa [rC] using this
    show ((rC x.1 x.2).toList ++ cellsR r)[0 * 5 + j]? = _
    rw [Nat.zero_mul, Nat.zero_add, List.getElem?_append_left (by simpa [rC] using hj)]
    simpa using hu
  | x :: r, i + 1, p, h, j, u, hu => by
    have ih := cellsR_at r i p (by simpa using h) j u hu
    show ((rC x.1 x.2).toList ++ cellsR r)[(i + 1) * 5 + j]? = _
    rw [List.getElem?_append_right (by simp [rC]; omega)]
    rw [show (i + 1) * 5 + j - (rC x.1 x.2).toList.length = i * 5 + j by simp [rC]; omega]
    exact ih

theorem ops_cells {w : World} {ov : Value} {G : Go8} (h : w.ownsRow 0 83 5 ov G.length (cellsR G)) {i : Nat} {p : AOp × Value} (hp : G[i]? = some p) : ∃ g, (∃ cap, ov = .slice (some ⟨g, 0, none⟩) G.length cap) ∧
    ∀ j u, (rC p.1 p.2)[j]? = some u → w.cell? ⟨g, i * 5 + j, none⟩ = some u := by
  have hlt := (List.getElem?_eq_some_iff.1 hp).1
  rcases h.2 with ⟨_, h0⟩ | ⟨g, cap, cur, rfl, _, hg, hn, hm, hs, ht⟩
  · omega
  · refine ⟨g, ⟨cap, rfl⟩, fun j u hu' => ?_⟩
    have hj5 : j < 5 := by
      have := (Array.getElem?_eq_some_iff.1 hu').1
      simpa [rC] using this
    rw [World.ownsRow.cellAt h _ (by omega)]
    exact cellsR_at G i p hp j u hu'

theorem rops_index (W : World) (g n cap i : Nat) (hi : i < n) : (Instr.indexAt 63 (.slice (some ⟨g, 0, none⟩) n cap) (.int .i64 (i : Int))).run Try.prog W = .ok (.pointer (some ⟨g, i * 5, none⟩)) W := by
  have he : Try.prog.elem 63 = 83 := by kernel_rfl
  have hs : (Go.sizeOf 83).run Try.prog W = .ok 5 W := by kernel_rfl
  have ht : Try.prog.underlying 63 = some (.slice (Try.prog.elem 63)) := by rw [he]; exact Try.underlying63
  rw [run_indexAt_slice (h := ht), if_pos (by omega), he, hs]
  simp [Result.andThen, Addr.add]
  exact fun h => h.symm

set_option maxHeartbeats 2000000 in
set_option maxRecDepth 20000 in
theorem crashr_any {w : World} {S : Nat → Prop} {r c : Nat} {s : St} {ka : Option Addr} {nk ck : Nat} {ks : List Bool} {torn : Int} (h0 : IsRef w S r c s) (hk : Bls w (.slice ka nk ck) ks) (hnk : ks.length = nk) (hnk2 : nk ≤ 9223372036854775807) :
    Calls Try.prog 35 #[dp r, .slice ka nk ck, .int .i64 torn] w fun e w' => e = .returned (.tuple #[]) ∧ NextR w S r c (s.crash ks torn) w' := by
  have HLt := Lib.hid h0.lt
  obtain ⟨fv, sv, ov, F1, F2, G, h, ht⟩ := h0.ex
  obtain ⟨n, hn⟩ : ∃ n, n = G.length := ⟨_, rfl⟩
  obtain ⟨oa, oc, hov⟩ : ∃ oa oc, ov = .slice oa n oc := by
    rcases h.ops.2 with ⟨hv, h0⟩ | ⟨g, cap, cur, hv, _⟩
    · exact ⟨none, 0, by rw [hv, hn, h0]⟩
    · exact ⟨_, _, by rw [hv, hn]⟩
  subst hov
  obtain ⟨sa, sc, hsv⟩ := h.f2.slice
  obtain ⟨sn, hsn⟩ : ∃ sn, sn = F2.length := ⟨_, rfl⟩
  rw [← hsn] at hsv
  subst hsv
  have HStart : Hid (CrAt w (.slice sa sn sc) F2 s [] (.slice sa sn sc) w) := Lib.hid ⟨⟨F2, h.f2, by rw [h.p2]; rfl, fun _ hj => .inl hj⟩, Below.refl _ _⟩
  obtain ⟨sv, hsv⟩ : ∃ sv, sv = Value.slice sa sn sc := ⟨_, rfl⟩
  have c1 : w.cell? ⟨r, 1, none⟩ = some (.slice sa sn sc) := by rw [Blk.cell h.blk]; rfl
  have c2 : w.cell? ⟨r, 2, none⟩ = some (.slice oa n oc) := by rw [Blk.cell h.blk]; rfl
  have HD : Hid (Rk w r c s fv sv (.slice oa n oc) F1 F2 G) := Lib.hid (by rw [hsv]; exact h)
  have HT : Hid (∀ k, rk r fv sv (.slice oa n oc) F1 F2 G k → S k) := Lib.hid (by rw [hsv]; exact ht)
  have HN := Lib.hid hn
  have HK := Lib.hid hk
  have HNk := Lib.hid hnk
  have hn2 : n ≤ 2000 := by
    have h1 := h.ok.few
    have h2 := h.small
    have h3 : G.length = s.ops.length := by rw [← h.pw]; simp [names8]
    omega
  have HStart : Hid (CrAt w sv F2 s [] (.slice sa sn sc) w) := Lib.hid (by rw [hsv]; exact HStart.out)
  clear h ht h0 hn hsn hsv hk hnk
  go_enter Try.func35, Try.ntmps35
  go_wp2
  go_loop [7, 8] (fun s7 s8 => ∃ (i : Nat) (la : Int), i ≤ n ∧ i ≤ nk ∧ -1 ≤ la ∧ la < (i : Int) ∧ s7 = .int .i64 la ∧ s8 = .int .i64 i ∧ Hid (LastAt G ks i la)) (fun _ s8 => n - (intOf s8).toNat)
  case atStart => exact ⟨0, -1, Nat.zero_le _, Nat.zero_le _, by omega, by omega, rfl, rfl, Lib.hid LastAt.start⟩
  case round =>
    obtain ⟨i, la, hin, hik, hl1, hl2, rfl, rfl, HLast⟩ := hrel
    have HLab : Hid (-1 ≤ la ∧ la < (i : Int) ∧ i ≤ n ∧ i ≤ nk) := Lib.hid ⟨hl1, hl2, hin, hik⟩
    have i0 : (0 : Int) ≤ (i : Int) := Int.natCast_nonneg _
    by_cases hlt : i < n
    · have i1a : (i : Int) < (n : Int) := by omega
      by_cases hlk : i < nk
      · have i1b : (i : Int) < (nk : Int) := by omega
        obtain ⟨bb, hbb⟩ : ∃ bb, ks[i]? = some bb := ⟨ks[i]'(by have := HNk.out; omega), List.getElem?_eq_getElem _⟩
        obtain ⟨a', c', e', hcell⟩ := HK.out
        simp at e'
        obtain ⟨rfl, -, -⟩ := e'
        obtain ⟨kad, rfl, hcb⟩ := hcell i bb hbb
        have hidxb : ∀ W, (Instr.indexAt 31 (.slice (some kad) nk ck) (.int .i64 (i : Int))).run Try.prog W = .ok (.pointer (some (kad.add i))) W := fun W => bools_index W kad nk ck i hlk
        clear hcell
        cases bb with
        | true =>
          have HYes := Lib.hid (LastAt.yes (G := G) hbb)
          clear hbb
          go_wp2
          refine ⟨⟨i + 1, (i : Int), by omega, by omega, by omega, by omega, rfl, by go_num, HYes⟩, by simp [intOf]; omega⟩
        | false =>
          obtain ⟨p, hp⟩ : ∃ p, G[i]? = some p := ⟨G[i]'(by have := HN.out; omega), List.getElem?_eq_getElem _⟩
          have HNo := Lib.hid (HLast.out.no hp hbb)
          clear hbb hp
          go_wp2
          refine ⟨⟨i + 1, la, by omega, by omega, by omega, by omega, rfl, by go_num, HNo⟩, by simp [intOf]; omega⟩
      · have i1b : decide ((i : Int) < (nk : Int)) = false := by simp; omega
        have HEq : Hid (keptG (G.take i) ks = keptG G ks) := Lib.hid (by rw [show i = ks.length by have := HNk.out; omega]; exact keptG_take G ks)
        have i1c : decide (i < nk) = false := by simpa using hlk
        clear hin hik hl1 hl2
        go_wp2
        clear i1a i1b i1c hlt hlk
        go_loopw [6, 9] (fun s6 s9 wr => ∃ i : Nat, (i : Int) ≤ la + 1 ∧ s9 = .int .i64 i ∧ Hid (CrAt w sv F2 s (doneR G ks torn la i) s6 wr)) (fun _ s9 _ => (la + 1 - intOf s9).toNat)
        case atStart =>
          refine ⟨0, by have := HLab.out; omega, rfl, Lib.hid ?_⟩
          rw [doneR_start HLast.out HEq.out]
          exact HStart.out
        case round =>
          obtain ⟨i, hi, rfl, HC⟩ := hrel
          by_cases hlt : (i : Int) ≤ la
          · have hit : i < n ∧ i < nk := by have := HLab.out; omega
            have hdlt : decide ((i : Int) ≤ la) = true := by simpa using hlt
            have i0 : (0 : Int) ≤ (i : Int) := Int.natCast_nonneg _
            obtain ⟨bb, hbb⟩ : ∃ bb, ks[i]? = some bb := ⟨ks[i]'(by have := HNk.out; omega), List.getElem?_eq_getElem _⟩
            obtain ⟨a', c', e', hcell⟩ := HK.out
            simp at e'
            obtain ⟨rfl, -, -⟩ := e'
            obtain ⟨kad, rfl, hcb⟩ := hcell i bb hbb
            have hcb0 : wr.cell? (kad.add i) = some (.bool bb) := by rw [HC.out.bel.cell (World.block_lt_of_cell? w _ hcb)]; exact hcb
            have hidxb : ∀ W, (Instr.indexAt 31 (.slice (some kad) nk ck) (.int .i64 (i : Int))).run Try.prog W = .ok (.pointer (some (kad.add i))) W := fun W => bools_index W kad nk ck i hit.2
            obtain ⟨p, hp⟩ : ∃ p, G[i]? = some p := ⟨G[i]'(by have := HN.out; omega), List.getElem?_eq_getElem _⟩
            have HBb := Lib.hid hbb
            have HPi := Lib.hid hp
            clear hcell hcb
            cases bb with
            | false =>
              have HSk := Lib.hid (doneR_skip (torn := torn) HLast.out hlt hp hbb)
              clear hbb hp
              go_wp2
              go_roundw
              case rel => exact ⟨i + 1, by have := HSk.out.2; omega, by go_num, by rw [HSk.out.1]; exact HC⟩
              case measure => simp [intOf]; omega
            | true =>
              have hdW : Rk wr r c s fv sv (.slice oa n oc) F1 F2 G := HD.out.same fun k hk => HC.out.bel.block k (HD.out.lt hk)
              have HDW := Lib.hid hdW
              have g2 : wr.cell? ⟨r, 2, none⟩ = some (.slice oa n oc) := by rw [Blk.cell hdW.blk]; rfl
              obtain ⟨g, hoa, hops⟩ := ops_cells hdW.ops hp
              simp at hoa
              obtain ⟨rfl, -⟩ := hoa
              have hidx : ∀ W, (Instr.indexAt 63 (.slice (some ⟨g, 0, none⟩) n oc) (.int .i64 (i : Int))).run Try.prog W = .ok (.pointer (some ⟨g, i * 5, none⟩)) W := fun W => rops_index W g n oc i hit.1
              obtain ⟨j5, hj5⟩ : ∃ j5, j5 = i * 5 := ⟨_, rfl⟩
              rw [← hj5] at hops hidx
              have hrowp := hdW.text p (List.mem_of_getElem? hp)
              have hfo : FitO p.1 := HD.out.ok.fitO _ (by rw [← HD.out.pw]; exact names8_mem (List.mem_of_getElem? hp))
              have HFo := Lib.hid hfo
              obtain ⟨⟨k, nn, q, a, b⟩, v⟩ := p
              obtain ⟨va, vc, hv, hvc⟩ := row_form hrowp
              simp only at hv hvc
              subst hv
              obtain ⟨lb, hlb⟩ : ∃ lb, lb = b.length := ⟨_, rfl⟩
              rw [← hlb] at hvc
              simp only [← hlb] at hops
              have HRowp : Hid (Row wr 0 (.slice va lb vc) b) := by rw [hlb]; exact hrowp
              have HLb := Lib.hid hlb
              obtain ⟨N, hN⟩ : ∃ N, nm nn = .string N := ⟨_, rfl⟩
              obtain ⟨M, hM⟩ : ∃ M, nm q = .string M := ⟨_, rfl⟩
              obtain ⟨K, hK⟩ : ∃ K : Int, K = (k : Int) + 1 := ⟨_, rfl⟩
              have hrC : ∀ (b' : List UInt8) (v' : Value), rC ⟨k, nn, q, a, b'⟩ v' = #[.int .i64 K, .string N, .string M, .int .i64 (a : Int), v'] := fun b' v' => by unfold rC; simp only [hN, hM, hK]
              simp only [hrC] at hops
              have l0 := hops 0 _ rfl
              have l1 := hops 1 _ rfl
              have l2 := hops 2 _ rfl
              have l3 := hops 3 _ rfl
              have l4 := hops 4 _ rfl
              simp only [Nat.add_zero] at l0
              have HRC := Lib.hid hrC
              have hsml : s.sure.length + (doneR G ks torn la i).length ≤ 2000 := by
                have h1 := doneR_length (G := G) (ks := ks) (torn := torn) (la := la) (i := i)
                have h2 := HD.out.ok.few
                have h3 := HD.out.small
                have h4 : G.length = s.ops.length := by rw [← HD.out.pw]; simp [names8]
                omega
              have hfits : ∀ o ∈ doneR G ks torn la i, FitO o := doneR_fit fun o ho => HD.out.ok.fitO o (by rw [← HD.out.pw]; exact ho)
              have HSml := Lib.hid hsml
              have HFits := Lib.hid hfits
              have hbel1 : Below wr.heap.size wr (wr.alloc (.cells #[.int .i64 K, .string N, .string M, .int .i64 (a : Int), .slice va lb vc] 83)) := (Below.refl _ _).alloc (Nat.le_refl _) _
              have HBel1 := Lib.hid hbel1
              have HWhole : Hid (∀ W, Below wr.heap.size wr W → Calls Try.prog 51 #[u6, .agg #[.int .i64 K, .string N, .string M, .int .i64 (a : Int), .slice va lb vc]] W fun e w' => ∃ u2, e = .returned u2 ∧ CrAt w sv F2 s (doneR G ks torn la i ++ [⟨k, nn, q, a, b⟩]) u2 w') := Lib.hid fun W hW => by
                have h := (HC.out.below hW).call (op := ⟨k, nn, q, a, b⟩) (v := .slice va lb vc) HD.out.ok HFits.out HSml.out HFo.out (HRowp.out.below hW)
                rw [HRC.out] at h
                exact h
              by_cases hil : (i : Int) = la
              · have HL2 := Lib.hid (doneR_last (torn := torn) HLast.out HEq.out hil HPi.out)
                have hieq : ((i : Int) == la) = true := by simpa using hil
                by_cases hk0 : k = 0
                · have hk1 : (K == 1) = true := by simp; omega
                  obtain ⟨Q, hQ⟩ : ∃ Q, Q = (max torn 0).toNat := ⟨_, rfl⟩
                  by_cases htl : torn < (lb : Int)
                  · have htd : decide (torn < (lb : Int)) = true := by simpa using htl
                    have hmax : ∀ (ts : Array TypeId) (ty : TypeId) (W : World), (Builtin.max_ ts ty #[.int .i64 torn, .int .i64 0]).run Try.prog W = .ok (.int .i64 (Q : Int)) W := fun ts ty W => by
                      have e : (if (0 : Int) > torn then 0 else torn) = (Q : Int) := by omega
                      rw [run_max_int2, e]
                    have hsl : ∀ W, (Instr.sliceAt 30 (.slice va lb vc) none (some (.int .i64 (Q : Int))) none).run Try.prog W = .ok (.slice va Q vc) W := slice_to va lb vc Q (by omega)
                    have hfo2 : FitO ⟨k, nn, q, a, b.take Q⟩ := by
                      have h := fit_torn torn [⟨k, nn, q, a, b⟩] (fun o ho => by obtain rfl := List.mem_singleton.1 ho; exact HFo.out) ⟨k, nn, q, a, b.take Q⟩ (by rw [hQ]; simp [tornA])
                      exact h
                    have hcut : ∀ W, Below wr.heap.size wr W → Calls Try.prog 51 #[u6, .agg #[.int .i64 K, .string N, .string M, .int .i64 (a : Int), .slice va Q vc]] W fun e w' => ∃ u2, e = .returned u2 ∧ CrAt w sv F2 s (doneR G ks torn la (i + 1)) u2 w' := fun W hW => by
                      have h := (HC.out.below hW).call (op := ⟨k, nn, q, a, b.take Q⟩) (v := .slice va Q vc) HD.out.ok HFits.out HSml.out hfo2 ((HRowp.out.below hW).take Q (by omega))
                      rw [HRC.out] at h
                      rw [HL2.out, ← hQ]
                      exact h
                    have HCut := Lib.hid hcut
                    have hfr := (Blk.new wr 83 #[.int .i64 K, .string N, .string M, .int .i64 (a : Int), .slice va lb vc])
                    have m4 := Blk.cell hfr 4
                    have fr4 := Blk.frozen hfr 4
                    have HBel2 : Hid (Below wr.heap.size wr ((wr.alloc (.cells #[.int .i64 K, .string N, .string M, .int .i64 (a : Int), .slice va lb vc] 83)).setCell ⟨wr.heap.size, 4, none⟩ (.slice va Q vc))) := Lib.hid ⟨rfl, rfl, rfl, by simp [World.setCell], fun j hj => by rw [heap_setCell_other _ ⟨wr.heap.size, 4, none⟩ j _ (by show j ≠ wr.heap.size; omega)]; exact HBel1.out.block j hj⟩
                    clear hbel1 hfr hcut hfo2 hQ hops hp hbb hil hk0 htl hlb hvc hrowp hfo hN hM hK hrC hsml hfits hdW hj5 hi HWhole
                    go_wp2_with fail
                    refine (HCut.out _ ((Below.refl _ _).alloc (Nat.le_refl _) _)).mono ?_
                    rintro e w4 ⟨u2, rfl, hc4⟩
                    have HC4 := Lib.hid hc4
                    clear hc4
                    go_wp2
                    go_roundw
                    case rel => exact ⟨i + 1, by omega, by go_num, HC4⟩
                    case measure => simp [intOf]; omega
                  · have htd : decide (torn < (lb : Int)) = false := by simpa using htl
                    have HEqb : Hid (doneR G ks torn la (i + 1) = doneR G ks torn la i ++ [⟨k, nn, q, a, b⟩]) := Lib.hid (by rw [HL2.out]; simp only; rw [List.take_of_length_le (by omega)])
                    clear HL2
                    clear hbel1 hops hp hbb hil hlb hvc hrowp hfo hN hM hK hrC hsml hfits hdW hj5 hi
                    go_wp2_with fail
                    refine (HWhole.out _ ((Below.refl _ _).alloc (Nat.le_refl _) _)).mono ?_
                    rintro e w4 ⟨u2, rfl, hc4⟩
                    rw [← HEqb.out] at hc4
                    have HC4 := Lib.hid hc4
                    clear hc4
                    go_wp2
                    go_roundw
                    case rel => exact ⟨i + 1, by omega, by go_num, HC4⟩
                    case measure => simp [intOf]; omega
                · have hk1 : (K == 1) = false := by simp; omega
                  have HEqb : Hid (doneR G ks torn la (i + 1) = doneR G ks torn la i ++ [⟨k, nn, q, a, b⟩]) := Lib.hid (by
                    rw [HL2.out]
                    have hb0 : b = [] := hfo.2.2.2.2.2.2.1 hk0
                    subst hb0
                    simp)
                  clear HL2
                  clear hbel1 hops hp hbb hil hlb hvc hrowp hfo hN hM hK hrC hsml hfits hdW hj5 hi
                  go_wp2_with fail
                  refine (HWhole.out _ ((Below.refl _ _).alloc (Nat.le_refl _) _)).mono ?_
                  rintro e w4 ⟨u2, rfl, hc4⟩
                  rw [← HEqb.out] at hc4
                  have HC4 := Lib.hid hc4
                  clear hc4
                  go_wp2
                  go_roundw
                  case rel => exact ⟨i + 1, by omega, by go_num, HC4⟩
                  case measure => simp [intOf]; omega
              · have hieq : ((i : Int) == la) = false := by simpa using hil
                have HEqb : Hid (doneR G ks torn la (i + 1) = doneR G ks torn la i ++ [⟨k, nn, q, a, b⟩]) := Lib.hid (doneR_all (by omega) HPi.out HBb.out)
                clear hbel1 hops hp hbb hil hlb hvc hrowp hfo hN hM hK hrC hsml hfits hdW hj5 hi
                go_wp2_with fail
                refine (HWhole.out _ ((Below.refl _ _).alloc (Nat.le_refl _) _)).mono ?_
                rintro e w4 ⟨u2, rfl, hc4⟩
                rw [← HEqb.out] at hc4
                have HC4 := Lib.hid hc4
                clear hc4
                go_wp2
                go_roundw
                case rel => exact ⟨i + 1, by omega, by go_num, HC4⟩
                case measure => simp [intOf]; omega
          · have hex := HC.out
            rw [doneR_end (by omega), HD.out.pw] at hex
            obtain ⟨xa, xn, xc, hu⟩ := hex.slice
            subst hu
            have HEnd := Lib.hid (crashr_end (r := r) (torn := torn) HD.out HT.out HLt.out hex)
            have hblk := HD.out.blk.keep hex.bel
            have g0 : wr.cell? ⟨r, 0, none⟩ = some fv := by rw [Blk.cell hblk]; rfl
            have g1 : wr.cell? ⟨r, 1, none⟩ = some sv := by rw [Blk.cell hblk]; rfl
            have g2 : wr.cell? ⟨r, 2, none⟩ = some (.slice oa n oc) := by rw [Blk.cell hblk]; rfl
            have g4 : wr.cell? ⟨r, 4, none⟩ = some (.int .i64 s.fuse) := by rw [Blk.cell hblk]; rfl
            have g5 : wr.cell? ⟨r, 5, none⟩ = some (.bool s.off) := by rw [Blk.cell hblk]; rfl
            have e0 : wr.frozen? ⟨r, 0, none⟩ = false := Blk.frozen hblk 0
            have e1 : wr.frozen? ⟨r, 1, none⟩ = false := Blk.frozen hblk 1
            have e2 : wr.frozen? ⟨r, 2, none⟩ = false := Blk.frozen hblk 2
            have e4 : wr.frozen? ⟨r, 4, none⟩ = false := Blk.frozen hblk 4
            have e5 : wr.frozen? ⟨r, 5, none⟩ = false := Blk.frozen hblk 5
            have hdlt : decide ((i : Int) ≤ la) = false := by simpa using hlt
            clear hex hblk c1 c2 HC
            go_wp2
            go_end0
            exact ⟨rfl, HEnd.out⟩
    · have i1a : decide ((i : Int) < (n : Int)) = false := by simp; omega
      have i1b : decide (i < n) = false := by simpa using hlt
      have i1c : True := trivial
      have hlk : True := trivial
      have HEq : Hid (keptG (G.take i) ks = keptG G ks) := Lib.hid (by rw [List.take_of_length_le (by have := HN.out; omega)])
      clear hin hik hl1 hl2
      go_wp2
      clear i1a i1b i1c hlt hlk
      go_loopw [6, 9] (fun s6 s9 wr => ∃ i : Nat, (i : Int) ≤ la + 1 ∧ s9 = .int .i64 i ∧ Hid (CrAt w sv F2 s (doneR G ks torn la i) s6 wr)) (fun _ s9 _ => (la + 1 - intOf s9).toNat)
      case atStart =>
        refine ⟨0, by have := HLab.out; omega, rfl, Lib.hid ?_⟩
        rw [doneR_start HLast.out HEq.out]
        exact HStart.out
      case round =>
        obtain ⟨i, hi, rfl, HC⟩ := hrel
        by_cases hlt : (i : Int) ≤ la
        · have hit : i < n ∧ i < nk := by have := HLab.out; omega
          have hdlt : decide ((i : Int) ≤ la) = true := by simpa using hlt
          have i0 : (0 : Int) ≤ (i : Int) := Int.natCast_nonneg _
          obtain ⟨bb, hbb⟩ : ∃ bb, ks[i]? = some bb := ⟨ks[i]'(by have := HNk.out; omega), List.getElem?_eq_getElem _⟩
          obtain ⟨a', c', e', hcell⟩ := HK.out
          simp at e'
          obtain ⟨rfl, -, -⟩ := e'
          obtain ⟨kad, rfl, hcb⟩ := hcell i bb hbb
          have hcb0 : wr.cell? (kad.add i) = some (.bool bb) := by rw [HC.out.bel.cell (World.block_lt_of_cell? w _ hcb)]; exact hcb
          have hidxb : ∀ W, (Instr.indexAt 31 (.slice (some kad) nk ck) (.int .i64 (i : Int))).run Try.prog W = .ok (.pointer (some (kad.add i))) W := fun W => bools_index W kad nk ck i hit.2
          obtain ⟨p, hp⟩ : ∃ p, G[i]? = some p := ⟨G[i]'(by have := HN.out; omega), List.getElem?_eq_getElem _⟩
          have HBb := Lib.hid hbb
          have HPi := Lib.hid hp
          clear hcell hcb
          cases bb with
          | false =>
            have HSk := Lib.hid (doneR_skip (torn := torn) HLast.out hlt hp hbb)
            clear hbb hp
            go_wp2
            go_roundw
            case rel => exact ⟨i + 1, by have := HSk.out.2; omega, by go_num, by rw [HSk.out.1]; exact HC⟩
            case measure => simp [intOf]; omega
          | true =>
            have hdW : Rk wr r c s fv sv (.slice oa n oc) F1 F2 G := HD.out.same fun k hk => HC.out.bel.block k (HD.out.lt hk)
            have HDW := Lib.hid hdW
            have g2 : wr.cell? ⟨r, 2, none⟩ = some (.slice oa n oc) := by rw [Blk.cell hdW.blk]; rfl
            obtain ⟨g, hoa, hops⟩ := ops_cells hdW.ops hp
            simp at hoa
            obtain ⟨rfl, -⟩ := hoa
            have hidx : ∀ W, (Instr.indexAt 63 (.slice (some ⟨g, 0, none⟩) n oc) (.int .i64 (i : Int))).run Try.prog W = .ok (.pointer (some ⟨g, i * 5, none⟩)) W := fun W => rops_index W g n oc i hit.1
            obtain ⟨j5, hj5⟩ : ∃ j5, j5 = i * 5 := ⟨_, rfl⟩
            rw [← hj5] at hops hidx
            have hrowp := hdW.text p (List.mem_of_getElem? hp)
            have hfo : FitO p.1 := HD.out.ok.fitO _ (by rw [← HD.out.pw]; exact names8_mem (List.mem_of_getElem? hp))
            have HFo := Lib.hid hfo
            obtain ⟨⟨k, nn, q, a, b⟩, v⟩ := p
            obtain ⟨va, vc, hv, hvc⟩ := row_form hrowp
            simp only at hv hvc
            subst hv
            obtain ⟨lb, hlb⟩ : ∃ lb, lb = b.length := ⟨_, rfl⟩
            rw [← hlb] at hvc
            simp only [← hlb] at hops
            have HRowp : Hid (Row wr 0 (.slice va lb vc) b) := by rw [hlb]; exact hrowp
            have HLb := Lib.hid hlb
            obtain ⟨N, hN⟩ : ∃ N, nm nn = .string N := ⟨_, rfl⟩
            obtain ⟨M, hM⟩ : ∃ M, nm q = .string M := ⟨_, rfl⟩
            obtain ⟨K, hK⟩ : ∃ K : Int, K = (k : Int) + 1 := ⟨_, rfl⟩
            have hrC : ∀ (b' : List UInt8) (v' : Value), rC ⟨k, nn, q, a, b'⟩ v' = #[.int .i64 K, .string N, .string M, .int .i64 (a : Int), v'] := fun b' v' => by unfold rC; simp only [hN, hM, hK]
            simp only [hrC] at hops
            have l0 := hops 0 _ rfl
            have l1 := hops 1 _ rfl
            have l2 := hops 2 _ rfl
            have l3 := hops 3 _ rfl
            have l4 := hops 4 _ rfl
            simp only [Nat.add_zero] at l0
            have HRC := Lib.hid hrC
            have hsml : s.sure.length + (doneR G ks torn la i).length ≤ 2000 := by
              have h1 := doneR_length (G := G) (ks := ks) (torn := torn) (la := la) (i := i)
              have h2 := HD.out.ok.few
              have h3 := HD.out.small
              have h4 : G.length = s.ops.length := by rw [← HD.out.pw]; simp [names8]
              omega
            have hfits : ∀ o ∈ doneR G ks torn la i, FitO o := doneR_fit fun o ho => HD.out.ok.fitO o (by rw [← HD.out.pw]; exact ho)
            have HSml := Lib.hid hsml
            have HFits := Lib.hid hfits
            have hbel1 : Below wr.heap.size wr (wr.alloc (.cells #[.int .i64 K, .string N, .string M, .int .i64 (a : Int), .slice va lb vc] 83)) := (Below.refl _ _).alloc (Nat.le_refl _) _
            have HBel1 := Lib.hid hbel1
            have HWhole : Hid (∀ W, Below wr.heap.size wr W → Calls Try.prog 51 #[u6, .agg #[.int .i64 K, .string N, .string M, .int .i64 (a : Int), .slice va lb vc]] W fun e w' => ∃ u2, e = .returned u2 ∧ CrAt w sv F2 s (doneR G ks torn la i ++ [⟨k, nn, q, a, b⟩]) u2 w') := Lib.hid fun W hW => by
              have h := (HC.out.below hW).call (op := ⟨k, nn, q, a, b⟩) (v := .slice va lb vc) HD.out.ok HFits.out HSml.out HFo.out (HRowp.out.below hW)
              rw [HRC.out] at h
              exact h
            by_cases hil : (i : Int) = la
            · have HL2 := Lib.hid (doneR_last (torn := torn) HLast.out HEq.out hil HPi.out)
              have hieq : ((i : Int) == la) = true := by simpa using hil
              by_cases hk0 : k = 0
              · have hk1 : (K == 1) = true := by simp; omega
                obtain ⟨Q, hQ⟩ : ∃ Q, Q = (max torn 0).toNat := ⟨_, rfl⟩
                by_cases htl : torn < (lb : Int)
                · have htd : decide (torn < (lb : Int)) = true := by simpa using htl
                  have hmax : ∀ (ts : Array TypeId) (ty : TypeId) (W : World), (Builtin.max_ ts ty #[.int .i64 torn, .int .i64 0]).run Try.prog W = .ok (.int .i64 (Q : Int)) W := fun ts ty W => by
                    have e : (if (0 : Int) > torn then 0 else torn) = (Q : Int) := by omega
                    rw [run_max_int2, e]
                  have hsl : ∀ W, (Instr.sliceAt 30 (.slice va lb vc) none (some (.int .i64 (Q : Int))) none).run Try.prog W = .ok (.slice va Q vc) W := slice_to va lb vc Q (by omega)
                  have hfo2 : FitO ⟨k, nn, q, a, b.take Q⟩ := by
                    have h := fit_torn torn [⟨k, nn, q, a, b⟩] (fun o ho => by obtain rfl := List.mem_singleton.1 ho; exact HFo.out) ⟨k, nn, q, a, b.take Q⟩ (by rw [hQ]; simp [tornA])
                    exact h
                  have hcut : ∀ W, Below wr.heap.size wr W → Calls Try.prog 51 #[u6, .agg #[.int .i64 K, .string N, .string M, .int .i64 (a : Int), .slice va Q vc]] W fun e w' => ∃ u2, e = .returned u2 ∧ CrAt w sv F2 s (doneR G ks torn la (i + 1)) u2 w' := fun W hW => by
                    have h := (HC.out.below hW).call (op := ⟨k, nn, q, a, b.take Q⟩) (v := .slice va Q vc) HD.out.ok HFits.out HSml.out hfo2 ((HRowp.out.below hW).take Q (by omega))
                    rw [HRC.out] at h
                    rw [HL2.out, ← hQ]
                    exact h
                  have HCut := Lib.hid hcut
                  have hfr := (Blk.new wr 83 #[.int .i64 K, .string N, .string M, .int .i64 (a : Int), .slice va lb vc])
                  have m4 := Blk.cell hfr 4
                  have fr4 := Blk.frozen hfr 4
                  have HBel2 : Hid (Below wr.heap.size wr ((wr.alloc (.cells #[.int .i64 K, .string N, .string M, .int .i64 (a : Int), .slice va lb vc] 83)).setCell ⟨wr.heap.size, 4, none⟩ (.slice va Q vc))) := Lib.hid ⟨rfl, rfl, rfl, by simp [World.setCell], fun j hj => by rw [heap_setCell_other _ ⟨wr.heap.size, 4, none⟩ j _ (by show j ≠ wr.heap.size; omega)]; exact HBel1.out.block j hj⟩
                  clear hbel1 hfr hcut hfo2 hQ hops hp hbb hil hk0 htl hlb hvc hrowp hfo hN hM hK hrC hsml hfits hdW hj5 hi HWhole
                  go_wp2_with fail
                  refine (HCut.out _ ((Below.refl _ _).alloc (Nat.le_refl _) _)).mono ?_
                  rintro e w4 ⟨u2, rfl, hc4⟩
                  have HC4 := Lib.hid hc4
                  clear hc4
                  go_wp2
                  go_roundw
                  case rel => exact ⟨i + 1, by omega, by go_num, HC4⟩
                  case measure => simp [intOf]; omega
                · have htd : decide (torn < (lb : Int)) = false := by simpa using htl
                  have HEqb : Hid (doneR G ks torn la (i + 1) = doneR G ks torn la i ++ [⟨k, nn, q, a, b⟩]) := Lib.hid (by rw [HL2.out]; simp only; rw [List.take_of_length_le (by omega)])
                  clear HL2
                  clear hbel1 hops hp hbb hil hlb hvc hrowp hfo hN hM hK hrC hsml hfits hdW hj5 hi
                  go_wp2_with fail
                  refine (HWhole.out _ ((Below.refl _ _).alloc (Nat.le_refl _) _)).mono ?_
                  rintro e w4 ⟨u2, rfl, hc4⟩
                  rw [← HEqb.out] at hc4
                  have HC4 := Lib.hid hc4
                  clear hc4
                  go_wp2
                  go_roundw
                  case rel => exact ⟨i + 1, by omega, by go_num, HC4⟩
                  case measure => simp [intOf]; omega
              · have hk1 : (K == 1) = false := by simp; omega
                have HEqb : Hid (doneR G ks torn la (i + 1) = doneR G ks torn la i ++ [⟨k, nn, q, a, b⟩]) := Lib.hid (by
                  rw [HL2.out]
                  have hb0 : b = [] := hfo.2.2.2.2.2.2.1 hk0
                  subst hb0
                  simp)
                clear HL2
                clear hbel1 hops hp hbb hil hlb hvc hrowp hfo hN hM hK hrC hsml hfits hdW hj5 hi
                go_wp2_with fail
                refine (HWhole.out _ ((Below.refl _ _).alloc (Nat.le_refl _) _)).mono ?_
                rintro e w4 ⟨u2, rfl, hc4⟩
                rw [← HEqb.out] at hc4
                have HC4 := Lib.hid hc4
                clear hc4
                go_wp2
                go_roundw
                case rel => exact ⟨i + 1, by omega, by go_num, HC4⟩
                case measure => simp [intOf]; omega
            · have hieq : ((i : Int) == la) = false := by simpa using hil
              have HEqb : Hid (doneR G ks torn la (i + 1) = doneR G ks torn la i ++ [⟨k, nn, q, a, b⟩]) := Lib.hid (doneR_all (by omega) HPi.out HBb.out)
              clear hbel1 hops hp hbb hil hlb hvc hrowp hfo hN hM hK hrC hsml hfits hdW hj5 hi
              go_wp2_with fail
              refine (HWhole.out _ ((Below.refl _ _).alloc (Nat.le_refl _) _)).mono ?_
              rintro e w4 ⟨u2, rfl, hc4⟩
              rw [← HEqb.out] at hc4
              have HC4 := Lib.hid hc4
              clear hc4
              go_wp2
              go_roundw
              case rel => exact ⟨i + 1, by omega, by go_num, HC4⟩
              case measure => simp [intOf]; omega
        · have hex := HC.out
          rw [doneR_end (by omega), HD.out.pw] at hex
          obtain ⟨xa, xn, xc, hu⟩ := hex.slice
          subst hu
          have HEnd := Lib.hid (crashr_end (r := r) (torn := torn) HD.out HT.out HLt.out hex)
          have hblk := HD.out.blk.keep hex.bel
          have g0 : wr.cell? ⟨r, 0, none⟩ = some fv := by rw [Blk.cell hblk]; rfl
          have g1 : wr.cell? ⟨r, 1, none⟩ = some sv := by rw [Blk.cell hblk]; rfl
          have g2 : wr.cell? ⟨r, 2, none⟩ = some (.slice oa n oc) := by rw [Blk.cell hblk]; rfl
          have g4 : wr.cell? ⟨r, 4, none⟩ = some (.int .i64 s.fuse) := by rw [Blk.cell hblk]; rfl
          have g5 : wr.cell? ⟨r, 5, none⟩ = some (.bool s.off) := by rw [Blk.cell hblk]; rfl
          have e0 : wr.frozen? ⟨r, 0, none⟩ = false := Blk.frozen hblk 0
          have e1 : wr.frozen? ⟨r, 1, none⟩ = false := Blk.frozen hblk 1
          have e2 : wr.frozen? ⟨r, 2, none⟩ = false := Blk.frozen hblk 2
          have e4 : wr.frozen? ⟨r, 4, none⟩ = false := Blk.frozen hblk 4
          have e5 : wr.frozen? ⟨r, 5, none⟩ = false := Blk.frozen hblk 5
          have hdlt : decide ((i : Int) ≤ la) = false := by simpa using hlt
          clear hex hblk c1 c2 HC
          go_wp2
          go_end0
          exact ⟨rfl, HEnd.out⟩
end Go.Proofs.Ytabddeoeihlnnaa
