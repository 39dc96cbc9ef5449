/- Crash. -/
import Derived.Test.YtboongdoggggoaaDiskCopied
import Derived.Test.YtboongdoggggoaaTailTo
namespace Go.Proofs.Ytboongdoggggoaa
set_option maxRecDepth 20000
open Go.RowKit Go.Maps DiskMath Reg

theorem torn_length (torn : Int) : ∀ l : List AOp, (tornA torn l).length = l.length
  | [] => rfl
  | [o] => rfl
  | o :: o' :: os => by
    have := torn_length torn (o' :: os)
    simp only [tornA, List.length_cons] at this ⊢
    omega

theorem keptA_length : ∀ (l : List AOp) (ks : List Bool), (keptA l ks).length ≤ l.length
  | [], ks => by cases ks <;> simp [keptA]
  | o :: os, [] => by simp [keptA]
  | o :: os, k :: ks => by
    have := keptA_length os ks
    cases k <;> simp [keptA] <;> omega

theorem keptA_sub : ∀ (l : List AOp) (ks : List Bool), ∀ p ∈ keptA l ks, p ∈ l
  | [], ks, p, h => by cases ks <;> cases h
  | o :: os, [], p, h => by cases h
  | o :: os, k :: ks, p, h => by
    cases k
    · exact List.mem_cons_of_mem _ (keptA_sub os ks p (by simpa [keptA] using h))
    · simp only [keptA, if_true] at h
      rcases List.mem_cons.1 h with rfl | h
      · simp
      · exact List.mem_cons_of_mem _ (keptA_sub os ks p h)

theorem fit_torn (torn : Int) : ∀ l : List AOp, (∀ o ∈ l, FitO o) → ∀ o ∈ tornA torn l, FitO o
  | [], _, o, h => by cases h
  | [x], hl, o, h => by
    obtain rfl := List.mem_singleton.1 h
    obtain ⟨h0, h1, h2, h3, h4, h5, h6, h7⟩ := hl x (by simp)
    refine ⟨h0, h1, h2, h3, h4, ?_, fun hk => ?_, h7⟩
    · show (x.b.take _).length ≤ 4194304
      rw [List.length_take]
      omega
    · show x.b.take _ = []
      rw [h6 hk]
      simp
  | x :: y :: os, hl, o, h => by
    rcases List.mem_cons.1 h with rfl | h
    · exact hl _ (by simp)
    · exact fit_torn torn (y :: os) (fun o ho => hl o (List.mem_cons_of_mem _ ho)) o h

theorem names8_mem {G : Go8} {p : AOp × Value} (h : p ∈ G) : p.1 ∈ names8 G := List.mem_map_of_mem h

/-- What is left when the files were done anew, copied and laid into the disk. -/
theorem crash_end {w W W2 W3 : World} {T : Nat → Prop} {d c : Nat} {s : St} {m1 m2 m' : Nat} {F1 F2 F' : Gf} {ws : Value} {G : Go8} {ks : List Bool} {torn : Int} (hd : Dk w d c s m1 m2 F1 F2 ws G) (ht : ∀ k, tk d m1 m2 F1 F2 ws G k → T k) (hlt : ∀ k, T k → k < w.heap.size)
    (hW : Below w.heap.size w W) (hD : Done W d 5 m2 F2 (dC s m1 m2 ws) (doAllA (tornA torn (keptA s.ops ks)) s.sure) W2) (hk' : Keep W3 m' F') (hp' : pr F' = doAllA (tornA torn (keptA s.ops ks)) s.sure) (hn' : ∀ k, foot F' k → W2.heap.size ≤ k) (hm' : W2.heap.size ≤ m') (hb3 : Below W2.heap.size W2 W3) :
    Next w T d c (s.crash ks torn) (((((W3.setCell ⟨d, 3, none⟩ (.map (some m'))).setCell ⟨d, 4, none⟩ (.int .i64 (tot (doAllA (tornA torn (keptA s.ops ks)) s.sure) : Int))).setCell ⟨d, 7, none⟩ (.slice none 0 0)).setCell ⟨d, 1, none⟩ (.bool false)).setCell ⟨d, 2, none⟩ (.int .i64 (-1))) := by
  obtain ⟨F2', r1, r2, r3, r4, r5⟩ := hD
  obtain ⟨l, hl⟩ : ∃ l, l = doAllA (tornA torn (keptA s.ops ks)) s.sure := ⟨_, rfl⟩
  have hcr : s.crash ks torn = ⟨l, l, [], s.room, -1, false⟩ := by rw [hl]; rfl
  rw [← hl] at r2 r3 hp' ⊢
  have b3 := r3.keep hb3
  have b4 := Blk.set b3 3 (.map (some m'))
  have b5 := Blk.set b4 4 (.int .i64 (tot l : Int))
  have b6 := Blk.set b5 7 (.slice none 0 0)
  have b7 := Blk.set b6 1 (.bool false)
  have b8 := Blk.set b7 2 (.int .i64 (-1))
  have hops : ∀ o ∈ tornA torn (keptA s.ops ks), FitO o := fit_torn torn _ fun o ho => hd.ok.fitO o (keptA_sub _ _ o ho)
  have hset : ∀ {m : Nat} {F : Gf}, Keep W3 m F → Keep (((((W3.setCell ⟨d, 3, none⟩ (.map (some m'))).setCell ⟨d, 4, none⟩ (.int .i64 (tot l : Int))).setCell ⟨d, 7, none⟩ (.slice none 0 0)).setCell ⟨d, 1, none⟩ (.bool false)).setCell ⟨d, 2, none⟩ (.int .i64 (-1))) m F := fun h =>
    ((((h.setBlk b3 (by decide) 3 _).setBlk b4 (by decide) 4 _).setBlk b5 (by decide) 7 _).setBlk b6 (by decide) 1 _).setBlk b7 (by decide) 2 _
  have hs2 := hW.size
  have hs3 := r4.size
  have hO1 : OnlyS T w W2 := (OnlyS.of_below (S := T) hW fun k hk _ => hk).then r4 fun k _ h => by
    rcases h with h | h | h
    · exact ht k (.inl h)
    · exact ht k (.inr (.inr (.inl h)))
    · exact ht k (.inr (.inr (.inr (.inr (.inl h)))))
  have hO2 : OnlyS T w W3 := hO1.then (OnlyS.of_below (S := fun _ => False) hb3 fun k hk _ => hk) fun _ _ h => h.elim
  have hTd := ht d (.inl rfl)
  have hO3 : OnlyS T w (((((W3.setCell ⟨d, 3, none⟩ (.map (some m'))).setCell ⟨d, 4, none⟩ (.int .i64 (tot l : Int))).setCell ⟨d, 7, none⟩ (.slice none 0 0)).setCell ⟨d, 1, none⟩ (.bool false)).setCell ⟨d, 2, none⟩ (.int .i64 (-1))) :=
    ((((hO2.setCell (p := ⟨d, 3, none⟩) (fun _ => hTd) _).setCell (p := ⟨d, 4, none⟩) (fun _ => hTd) _).setCell (p := ⟨d, 7, none⟩) (fun _ => hTd) _).setCell (p := ⟨d, 1, none⟩) (fun _ => hTd) _).setCell (p := ⟨d, 2, none⟩) (fun _ => hTd) _
  refine Next.of (m1 := m') (m2 := m2) (F1 := F') (F2 := F2') (ws := .slice none 0 0) (G := []) hlt hO3 ?_ fun k hk => ?_
  · rw [hcr]
    exact {
      blk := b8
      k1 := hset hk'
      p1 := hp'
      k2 := hset (r1.below hb3)
      p2 := r2
      wops := ⟨World.ownsRow_nil _ _ _ _, fun p hp => by cases hp⟩
      pw := rfl
      ok := ⟨rfl, by show Rise l; rw [hl]; exact rise_doAll _ _ hd.ok.rise, by show Fit l; rw [hl]; exact fit_doAll _ _ hd.ok.fit hops, (fun o ho => by cases ho), by
        show l.length + 0 ≤ c
        rw [hl]
        have h1 := length_doAll (tornA torn (keptA s.ops ks)) s.sure
        rw [torn_length] at h1
        have h2 := keptA_length s.ops ks
        have h3 := hd.ok.few
        omega⟩
      small := hd.small
      ne := by
        have := r1.lt
        omega
      ap := fun k h1 h2 => by
        have := hn' k h1
        have := r1.foot_lt h2
        omega
      apo := fun p hp => by cases hp
      fuse := by show -1 ≤ (-1 : Int) ∧ (-1 : Int) ≤ 9223372036854775807; omega }
  · rcases hk with h | h | h | h | h | h | ⟨p, hp, _⟩
    · rw [h]; exact .inl hTd
    · right; omega
    · rw [h]; exact .inl (ht m2 (.inr (.inr (.inl rfl))))
    · have := hn' k h
      right; omega
    · rcases r5 k h with h | h
      · exact .inl (ht k (.inr (.inr (.inr (.inr (.inl h))))))
      · right; omega
    · simp [Value.ownBlock] at h
    · cases hp

set_option maxHeartbeats 1000000 in
theorem crash_any {w : World} {T : Nat → Prop} {d c : Nat} {s : St} {ka : Option Addr} {nk ck : Nat} {ks : List Bool} {torn : Int} (h : IsDisk w T d c s) (hk : Bls w (.slice ka nk ck) ks) (hnk : ks.length = nk) (hnk2 : nk ≤ 9223372036854775807) :
    Calls Try.prog 37 #[dp d, .slice ka nk ck, .int .i64 torn] w fun e w' => e = .returned (.tuple #[]) ∧ Next w T d c (s.crash ks torn) w' := by
  have hlt := h.lt
  obtain ⟨m1, m2, F1, F2, ws, G, hd, ht⟩ := h.ex
  have HD := Lib.hid hd
  have HT := Lib.hid ht
  have HLt := Lib.hid hlt
  have HKs := Lib.hid hk
  have HNk := Lib.hid hnk
  have hdl := hd.blk.lt
  have HLen : Hid (F2.length + G.length ≤ 2000) := by
    have e1 := hd.ok.few
    rw [← hd.p2, pr_length, ← hd.pw] at e1
    have e2 : (names8 G).length = G.length := by simp [names8]
    have := hd.small
    show F2.length + G.length ≤ 2000
    omega
  clear h hd ht hlt hk hnk
  go_enter Try.func37, Try.ntmps37
  go_wp2
  have hG : ∀ W W' : World, Below w.heap.size w W → Below W.heap.size W W' → Below w.heap.size w W' := fun W W' h h' => h.trans (h'.mono h.size)
  refine region_tail_to 10 _ [(8, .is (dp d)), (9, .is (dp d)), (10, .is (.pointer (some ⟨d, 5, none⟩))), (11, .is (dp d)), (12, .is (dp d)), (13, .is (.pointer (some ⟨d, 7, none⟩))), (14, .is ws), (15, .is (.slice ka nk ck)), (16, .is (.int .i64 torn)),
    (17, .sat (fun u W => ∃ G', names8 G' = tornA torn (keptA (names8 G) ks) ∧ (∀ p ∈ G', ∃ q ∈ G, p.2.ownBlock = q.2.ownBlock) ∧ Wops W u G') (fun u W W' ⟨G', h1, h2, h3⟩ hb => ⟨G', h1, h2, h3.below hb⟩))] [0, 10, 17]
    (fun W => Below w.heap.size w W) (by kernel_rfl) (by kernel_rfl) (by kernel_rfl) (by kernel_rfl) (by kernel_rfl) rfl rfl rfl (by intro k hk h; cases h; cases hk) (by kernel_rfl) (Below.refl _ _).drew ?_ ?_
  · refine ⟨?c0, ?c1, ?c2, ?c3, ?c4, ?c5, ?c6, ?c7, ?c8, ?c9, trivial⟩
    case c0 => exact ask_copy (guard_none rfl) (.tmp 0) (.inl rfl) (by intro k hk; cases hk; rfl)
    case c1 => exact ask_exec (guard_none rfl) (dp d) rfl rfl (by intro k hk; cases hk; rfl) (fun W hW => by kernel_rfl)
    case c2 => exact ask_field (guard_none rfl) _ (.tmp 9) 4 (dp d) (.pointer (some ⟨d, 5, none⟩)) rfl rfl (by intro k hk; cases hk; rfl) (fun W => by kernel_rfl)
    case c3 => exact ask_copy (guard_none rfl) (.tmp 0) (.inl rfl) (by intro k hk; cases hk; rfl)
    case c4 => exact ask_exec (guard_none rfl) (dp d) rfl rfl (by intro k hk; cases hk; rfl) (fun W hW => by kernel_rfl)
    case c5 => exact ask_field (guard_none rfl) _ (.tmp 12) 5 (dp d) (.pointer (some ⟨d, 7, none⟩)) rfl rfl (by intro k hk; cases hk; rfl) (fun W => by kernel_rfl)
    case c6 => exact ask_load (guard_none rfl) _ (.tmp 13) (.pointer (some ⟨d, 7, none⟩)) ws rfl rfl (by intro k hk; cases hk; rfl) (fun W hW => load_ops W _ _ (by rw [hW.cell (p := ⟨d, 7, none⟩) hdl, HD.out.cells]; rfl))
    case c7 => exact ask_copy (guard_none rfl) (.tmp 1) (.inl rfl) (by intro k hk; cases hk; rfl)
    case c8 => exact ask_copy (guard_none rfl) (.tmp 2) (.inl rfl) (by intro k hk; cases hk; rfl)
    case c9 => exact ask_call hG (guard_none rfl) _ _ _ #[ws, .slice ka nk ck, .int .i64 torn] (.sat (fun u W => ∃ G', names8 G' = tornA torn (keptA (names8 G) ks) ∧ (∀ p ∈ G', ∃ q ∈ G, p.2.ownBlock = q.2.ownBlock) ∧ Wops W u G') (fun u W W' ⟨G', h1, h2, h3⟩ hb => ⟨G', h1, h2, h3.below hb⟩)) rfl (by kernel_rfl) rfl rfl (by intro k hk; cases hk; rfl) (fun W hW => (kept_any (HD.out.wops.below hW) (by have := HLen.out; omega) (HKs.out.below hW) HNk.out hnk2).mono fun e w' h => by
      obtain ⟨v, G', h1, h2, h3, h4⟩ := h
      exact ⟨v, h1, ⟨G', h2, h3, h4.1⟩, h4.2.2⟩)
  · intro a' W hW hd' hs' hf'
    have t0 : a'.tmps.getD 0 undef = dp d := hf' 0 rfl
    have t10 : a'.tmps.getD 10 undef = .pointer (some ⟨d, 5, none⟩) := hf' 10 rfl
    obtain ⟨G', g1, g2, g3⟩ : ∃ G', names8 G' = tornA torn (keptA (names8 G) ks) ∧ (∀ p ∈ G', ∃ q ∈ G, p.2.ownBlock = q.2.ownBlock) ∧ Wops W (a'.tmps.getD 17 undef) G' := hf' 17 rfl
    obtain ⟨us, hus, ha'⟩ := act_open 35 a' hs' hd'
    rw [← hus] at t0 t10 g3
    have el : ((List.range 35).map us).toArray = #[us 0, us 1, us 2, us 3, us 4, us 5, us 6, us 7, us 8, us 9, us 10, us 11, us 12, us 13, us 14, us 15, us 16, us 17, us 18, us 19, us 20, us 21, us 22, us 23, us 24, us 25, us 26, us 27, us 28, us 29, us 30, us 31, us 32, us 33, us 34] := rfl
    rw [el] at ha'
    subst ha'
    rw [t0, t10]
    have hdW : Dk W d c s m1 m2 F1 F2 ws G := HD.out.same fun k hk => hW.block k (HD.out.lt hk)
    have hg' : names8 G' = tornA torn (keptA s.ops ks) := by rw [g1, hdW.pw]
    have hGl : G'.length ≤ G.length := by
      have e1 := congrArg List.length g1
      rw [torn_length] at e1
      have e2 := keptA_length (names8 G) ks
      simp only [names8, List.length_map] at e1 e2
      omega
    have hdo := doAll_any (o := 5) hdW.blk rfl (by rw [hdW.p2]; rfl) hdW.k2 (by rw [hdW.p2]; exact hdW.ok.fit) (by have := HLen.out; omega) (fun p hp => fit_torn torn _ (fun o ho => hdW.ok.fitO o (keptA_sub _ ks o ho)) p.1 (by rw [← hg']; exact names8_mem hp)) g3 (fun p hp k hf e => by
      obtain ⟨q, hq, e2⟩ := g2 p hp
      exact (hdW.apo q hq k (by rw [← e2]; exact e)).2 hf)
    rw [hg', hdW.p2] at hdo
    have HDo := Lib.hid hdo
    have HW := Lib.hid hW
    clear hus t0 t10 g1 g2 g3 el hf' hs' hd' hW hdW hg' hGl hdo hG
    go_wp2_with fail
    refine HDo.out.mono ?_
    rintro e W2 ⟨rfl, hDone⟩
    have HDone := Lib.hid hDone
    clear hDone HDo
    have hsz := HDone.out
    obtain ⟨F2', r1, r2, r3, r4, r5⟩ := hsz
    have hd2l := r3.lt
    have hl2 : (doAllA (tornA torn (keptA s.ops ks)) s.sure).length ≤ 2000 := by
      have h1 := length_doAll (tornA torn (keptA s.ops ks)) s.sure
      rw [torn_length] at h1
      have h2 := keptA_length s.ops ks
      have h3 := HD.out.ok.few
      have := HD.out.small
      omega
    have hF2l : F2'.length ≤ 2000 := by
      have e1 := congrArg List.length r2
      rw [pr_length] at e1
      omega
    have hcp := copied_any (d := d) (o := 5) (m := m2) (F := F2') (T := (tot (doAllA (tornA torn (keptA s.ops ks)) s.sure) : Int)) (by rw [Blk.cell r3]; rfl) (by rw [Blk.cell r3]; rfl) r1 (by rw [r2]; exact fit_doAll _ _ HD.out.ok.fit (fit_torn torn _ fun o ho => HD.out.ok.fitO o (keptA_sub _ _ o ho))) (by omega)
    rw [r2] at hcp
    have hcells : ∀ W3 : World, Below W2.heap.size W2 W3 → ∀ i x, ((dC s m1 m2 ws).setIfInBounds (5 + 1) (.int .i64 (tot (doAllA (tornA torn (keptA s.ops ks)) s.sure) : Int)))[i]? = some x → W3.cell? ⟨d, i, none⟩ = some x ∧ W3.frozen? ⟨d, i, none⟩ = false := fun W3 hb i x hx => ⟨by rw [Blk.cell (r3.keep hb)]; exact hx, Blk.frozen (r3.keep hb) i⟩
    have HCells := Lib.hid hcells
    have HCp := Lib.hid hcp
    clear r1 r2 r3 r4 r5 hl2 hF2l hcp hcells
    obtain ⟨TT, hTT⟩ : ∃ TT : Int, TT = (tot (doAllA (tornA torn (keptA s.ops ks)) s.sure) : Int) := ⟨_, rfl⟩
    rw [← hTT] at HCp
    have HTT := Lib.hid hTT
    clear hTT
    go_wp2_with fail
    refine HCp.out.mono ?_
    rintro e W3 ⟨m', F', rfl, q1, q2, q3, q4, q5⟩
    have x1 := HCells.out W3 q5 1 _ rfl
    have x2 := HCells.out W3 q5 2 _ rfl
    have x3 := HCells.out W3 q5 3 _ rfl
    have x4 := HCells.out W3 q5 4 _ rfl
    have x7 := HCells.out W3 q5 7 _ rfl
    obtain ⟨x1, y1⟩ := x1
    obtain ⟨x2, y2⟩ := x2
    obtain ⟨x3, y3⟩ := x3
    obtain ⟨x4, y4⟩ := x4
    obtain ⟨x7, y7⟩ := x7
    have hend := crash_end HD.out HT.out HLt.out HW.out HDone.out q1 q2 q3 q4 q5
    rw [← HTT.out] at hend
    have HEnd := Lib.hid hend
    clear hend q1 q2 q3 q4 q5 HCells
    go_wp2
    go_end0
    exact ⟨rfl, HEnd.out⟩
end Go.Proofs.Ytboongdoggggoaa
