/- gauge's Rows. -/
import Derived.Test.YtoabhnbifbdknaaGaugeRowsKit
import Derived.Test.YtoabhnbifbdknaaTail
import Derived.Deep.Cut
namespace Go.Proofs.Ytoabhnbifbdknaa
open Go.RowKit EdgeMath Reg

/-- Gauge a stands ahead of gauge b, places told apart. -/
def Pl (ms : List G) (a b : Nat) : Prop := rk (ms.getD a G.none).m < rk (ms.getD b G.none).m ∨ rk (ms.getD a G.none).m = rk (ms.getD b G.none).m ∧
  (rk (ms.getD a G.none).spread < rk (ms.getD b G.none).spread ∨ rk (ms.getD a G.none).spread = rk (ms.getD b G.none).spread ∧ a < b)

/-- The places in their order. -/
def Placed (ms : List G) (n : Nat) (P : List Nat) : Prop := P.Perm (List.range n) ∧ P.Pairwise fun a b => ¬ Pl ms b a

theorem placed_one {ms : List G} {n : Nat} {P Q : List Nat} (hP : Placed ms n P) (hQ : Placed ms n Q) : P = Q :=
  List.Perm.eq_of_pairwise (le := fun a b => ¬ Pl ms b a) (fun a b _ _ h1 h2 => by unfold Pl at h1 h2; omega) hP.2 hQ.2 (hP.1.trans hQ.1.symm)

/-- The first i rows are filled. -/
def Filled (ms : List G) (i : Nat) (d : Array Tr) : Prop := d.size = ms.length ∧ ∀ j, j < i → d[j]!.1 = j ∧ rk (b64 d[j]!.2.1) = rk (ms.getD j G.none).m ∧ rk (b64 d[j]!.2.2) = rk (ms.getD j G.none).spread

theorem filled_step {ms : List G} {i m s : Nat} {d : Array Tr} (h : Filled ms i d) (hi : i < ms.length) (h1 : rk (b64 m) = rk (ms.getD i G.none).m) (h2 : rk (b64 s) = rk (ms.getD i G.none).spread) : Filled ms (i + 1) (d.setIfInBounds i (i, m, s)) := by
  refine ⟨by simpa using h.1, fun j hj => ?_⟩
  by_cases hji : j = i
  · subst hji
    rw [Go.Sort.getElem!_set_same d j _ (by rw [h.1]; exact hi)]
    exact ⟨rfl, h1, h2⟩
  · rw [Go.Sort.getElem!_set_other d i j _ hji]
    exact h.2 j (by omega)

theorem placed_of_sort {ms : List G} {d d' : Array Tr} (h : Filled ms ms.length d) (hp : Go.Sort.PermIn 0 d.size d d') (hs : Go.Sort.SortedIn (ltOf cfR) 0 d.size d') : Placed ms ms.length (d'.toList.map (·.1)) := by
  obtain ⟨hsz, hf⟩ := h
  obtain ⟨p1, -, p3⟩ := hp
  have hperm : d'.toList.Perm d.toList := by
    rw [← p1] at p3
    have e1 : d'.extract 0 d'.size = d' := by simp
    have e2 : d.extract 0 d'.size = d := by rw [p1]; simp
    rw [e1, e2] at p3
    exact p3
  have hmem : ∀ x ∈ d'.toList, ∃ k, k < ms.length ∧ x.1 = k ∧ rk (b64 x.2.1) = rk (ms.getD k G.none).m ∧ rk (b64 x.2.2) = rk (ms.getD k G.none).spread := fun x hx => by
    have hx2 : x ∈ d.toList := hperm.mem_iff.1 hx
    obtain ⟨k, hk, e⟩ := List.getElem_of_mem hx2
    have hk2 : k < d.size := by simpa using hk
    have := hf k (by omega)
    rw [getElem!_pos d k hk2] at this
    have e' : d[k] = x := by simpa using e
    rw [e'] at this
    exact ⟨k, by omega, this⟩
  constructor
  · refine (hperm.map (·.1)).trans ?_
    have e : d.toList.map (·.1) = List.range ms.length := by
      apply List.ext_getElem
      · simp [hsz]
      · intro i h1 h2
        have hi : i < d.size := by simpa using h1
        have := (hf i (by omega)).1
        rw [getElem!_pos d i hi] at this
        simpa using this
    rw [e]
  · rw [List.pairwise_map, List.pairwise_iff_getElem]
    intro i j hi hj hij
    have hi' : i < d'.size := by simpa using hi
    have hj' : j < d'.size := by simpa using hj
    have hl := hs i j (by omega) hij (by omega)
    rw [lt_cfR_false, getElem!_pos d' j hj', getElem!_pos d' i hi'] at hl
    obtain ⟨a, -, a1, a2, a3⟩ := hmem d'[i] (by simp)
    obtain ⟨b, -, b1, b2, b3⟩ := hmem d'[j] (by simp)
    intro h
    apply hl
    simp only [Array.getElem_toList] at h
    unfold Pl at h
    unfold LtR
    rw [a1, b1] at h
    rw [a1, b1, a2, a3, b2, b3]
    exact h

theorem ask_sat {P : Program} {ops : Array Oper} {tab : List (List Nat)} {fin : List Tmp} {K : World → Prop} {f : Tmp → Fact} {i : Nat} {o : Oper} (hg : guardOk ops f o) (fd : Fact) (hd : ∀ k, o.dst = some k → f k = fd)
    (h : ∀ x W, K W → Told ops f o x W → ∃ v, (execOp (evalBy x) o).run P W = .ok (.value v) W ∧ fd.holds v W) : Asked P ops tab fin K f i o := by
  intro x W hW hk
  obtain ⟨v, h1, h2⟩ := h x W hW hk
  exact ⟨guard_ok hg hk, gives_value h1 ⟨hW, fun k u _ _ hu => hu, fun k hk => by show (f k).holds _ _; rw [hd k hk]; exact h2⟩⟩

theorem encR_all (x : Tr) : (encR x).toArray.all (·.oneCell') = true := by simp [encR, Value.oneCell']

theorem holdsk_keep {W W' : World} {blk : Nat} {d : Array Tr} (h : Go.Sort.HoldsK encR 3 W blk 0 d) (hb : blk < W.heap.size) (hbel : Below W.heap.size W W') : Go.Sort.HoldsK encR 3 W' blk 0 d := fun j hj => by
  have h := h j hj
  exact ⟨by rw [hbel.cell (by exact hb)]; exact h.1, by rw [hbel.frozen (by exact hb)]; exact h.2⟩

theorem holdsk_set {W : World} {blk : Nat} {d : Array Tr} (h : Go.Sort.HoldsK encR 3 W blk 0 d) (p : Addr) (v : Value) (hne : blk ≠ p.block) : Go.Sort.HoldsK encR 3 (W.setCell p v) blk 0 d := fun j hj => by
  have h := h j hj
  have hh : (W.setCell p v).heap[blk]? = W.heap[blk]? := Below.heap_setCell _ _ _ _ hne
  exact ⟨by rw [World.cell?_of_block (w := W) hh]; exact h.1, by rw [World.frozen?_of_block (w := W) hh]; exact h.2⟩

theorem rowk_load {W : World} {blk : Nat} {d : Array Tr} (h : Go.Sort.HoldsK encR 3 W blk 0 d) (j : Nat) (hj : j < d.size) : (Instr.loadAt 63 (.pointer (some ⟨blk, j * 3, none⟩))).run Try.prog W = .ok (.agg (encR d[j]!).toArray) W := by
  refine loads_cells ⟨blk, j * 3, none⟩ 63 _ (encR d[j]!) Try.underlying63 rfl (row_size _) (fun c u hu => ?_)
  have hc : c < 3 := by
    have := (List.getElem?_eq_some_iff.1 hu).1
    rw [encR_length] at this
    exact this
  have hadd : (⟨blk, j * 3, none⟩ : Addr).add c = ⟨blk, 0 + j * 3 + c, none⟩ := by unfold Addr.add; split <;> simp_all
  rw [hadd, (Go.Sort.HoldsK.cell h hj hc).1]
  rw [getElem!_pos _ c (by rw [encR_length]; exact hc)]
  rw [List.getElem?_eq_getElem (by rw [encR_length]; exact hc)] at hu
  exact hu

/-- The first j places, and zeros. -/
def sofar (d : Array Tr) (n j : Nat) : List Nat := (d.toList.map (·.1)).take j ++ List.replicate (n - j) 0
theorem sofar_zero (d : Array Tr) (n : Nat) : sofar d n 0 = List.replicate n 0 := by simp [sofar]
theorem sofar_length {d : Array Tr} {n j : Nat} (h : d.size = n) (hj : j ≤ n) : (sofar d n j).length = n := by
  unfold sofar
  rw [List.length_append, List.length_take, List.length_map, Array.length_toList, List.length_replicate]
  omega
theorem sofar_all {d : Array Tr} {n : Nat} (h : d.size = n) : sofar d n n = d.toList.map (·.1) := by
  unfold sofar
  rw [List.take_of_length_le (by rw [List.length_map, Array.length_toList]; omega), Nat.sub_self]
  simp
theorem sofar_step {d : Array Tr} {n j : Nat} (h : d.size = n) (hj : j < n) : sofar d n (j + 1) = (sofar d n j).set j d[j]!.1 := by
  unfold sofar
  have hl : ((d.toList.map (·.1)).take j).length = j := by rw [List.length_take, List.length_map, Array.length_toList]; omega
  rw [List.set_append_right _ _ (by omega), hl, Nat.sub_self, show n - j = (n - (j + 1)) + 1 by omega, List.replicate_succ, List.set_cons_zero]
  rw [List.take_succ_eq_append_getElem (by rw [List.length_map, Array.length_toList]; omega), List.append_assoc]
  congr 1
  simp only [List.getElem_map, Array.getElem_toList, List.singleton_append]
  rw [getElem!_pos d j (by omega)]

set_option maxRecDepth 100000 in
set_option maxHeartbeats 2000000 in
theorem rows_any (ms : List G) (v : Value) (w : World) (hv : Gls w v ms) (hok : ∀ i (h : i < ms.length), ms[i].Ok) (hn : ms.length ≤ 1000) :
    Calls Try.prog 20 #[v] w fun e w' => ∃ g P, e = .returned (.slice (some ⟨g, 0, none⟩) ms.length ms.length) ∧ NBlk w' g P ∧ Placed ms ms.length P ∧ w.heap.size ≤ g ∧ Below w.heap.size w w' := by
  obtain ⟨i0, hi, hz0, hz1, hz2⟩ := info_parts row_info
  obtain ⟨i1, hi1, hy0, hy1, hy2⟩ := info_parts int_info
  have hv0 := hv
  obtain ⟨a, cap, rfl, hlc, hgl⟩ := hv
  have HGl := Lib.hid hgl
  have HOk := Lib.hid hok
  have HLc := Lib.hid hlc
  obtain ⟨n, hnn⟩ : ∃ n, n = ms.length := ⟨_, rfl⟩
  rw [← hnn] at hn ⊢
  have HNn := Lib.hid hnn
  have HV0 := Lib.hid hv0
  clear hgl hok hlc hnn hv0
  go_enter Try.func20, Try.ntmps20
  go_wp2_with (at_make; refine wpList_make_full _ rfl _ _ 61 rfl w.heap.size 63 i0 (.agg #[.int .i64 0, .float .f64 0, .float .f64 0]) 3 Try.underlying61 hi hz0 hz1 _ _ _ _ n rfl rfl rfl rfl (by rw [hz2]; omega) (by unfold maxLen; omega) (Nat.le_refl _) ?_; intro w1 hown hgrow; (have HO := Lib.hid (rblk_made hown)); (have HB1 := Lib.hid ((Below.refl w.heap.size w).grown hgrow (Nat.le_refl _) (fun k hk => by cases hk))); clear hown hgrow)
  obtain ⟨blk, hblk⟩ : ∃ b, b = w.heap.size := ⟨_, rfl⟩
  have HBlk := Lib.hid (show w.heap.size ≤ blk by omega)
  have HRB := Lib.hid (show RBlk w1 blk (Array.replicate n (0, 0, 0)) by rw [hblk]; exact HO.out)
  rw [← hblk]
  clear hblk HO
  have hst := fun x w a md => run_store_float (P := Try.prog) .f64 x w a md
  refine frame_cut 48 rfl rfl ?_
  intro us0 hus
  have f3 : us0 3 = .slice (some ⟨blk, 0, none⟩) n n := hus 3
  have f12 : us0 12 = .slice a n cap := hus 12
  have f13 : us0 13 = .int .i64 (n : Int) := hus 13
  have f14 : us0 14 = .int .i64 0 := hus 14
  clear hus
  have el : ((List.range 48).map us0).toArray = #[us0 0, us0 1, us0 2, us0 3, us0 4, us0 5, us0 6, us0 7, us0 8, us0 9, us0 10, us0 11, us0 12, us0 13, us0 14, us0 15, us0 16, us0 17, us0 18, us0 19, us0 20, us0 21, us0 22, us0 23, us0 24, us0 25, us0 26, us0 27, us0 28, us0 29, us0 30, us0 31, us0 32, us0 33, us0 34, us0 35, us0 36, us0 37, us0 38, us0 39, us0 40, us0 41, us0 42, us0 43, us0 44, us0 45, us0 46, us0 47] := rfl
  rw [el, f3, f12, f13, f14]
  clear el f3 f12 f13 f14
  go_wp2
  go_loopw [14] (fun s14 wr => ∃ (i : Nat) (d : Array Tr), i ≤ n ∧ s14 = .int .i64 (i : Int) ∧ Gls wr (.slice a n cap) ms ∧ RBlk wr blk d ∧ Filled ms i d ∧ Below w.heap.size w wr) (fun s14 _ => n - (intOf s14).toNat)
  case atStart => exact ⟨0, _, by omega, rfl, by have := HV0.out.keep HB1.out; rw [HNn.out]; exact this, HRB.out, ⟨by rw [Array.size_replicate, HNn.out], fun j hj => by omega⟩, HB1.out⟩
  case round =>
    obtain ⟨i, d, hin, rfl, hgls, hrb, hfl, hbel⟩ := hrel
    have HG := Lib.hid hgls
    have HR := Lib.hid hrb
    have HF := Lib.hid hfl
    have HB := Lib.hid hbel
    clear hgls hrb hfl hbel HRB HB1
    by_cases hlt : i < n
    · have him : i < ms.length := by have := HNn.out; omega
      obtain ⟨g, rfl, hcs⟩ := HGl.out i him
      have hcs2 : ∀ c u, (ms[i].cells)[c]? = some u → wr.cell? ⟨g, i * 5 + c, none⟩ = some u := fun c u hu => by rw [HB.out.cell (World.block_lt_of_cell? w _ (hcs c u hu))]; exact hcs c u hu
      have hmok := HOk.out i him
      obtain ⟨A, hA⟩ : ∃ A, A = ms[i] := ⟨_, rfl⟩
      have HAg := Lib.hid (show ms.getD i G.none = A by rw [hA, List.getD, List.getElem?_eq_getElem him, Option.getD_some])
      rw [← hA] at hcs2 hmok
      have HAok := Lib.hid hmok
      have HLd := Lib.hid (gls_load hcs2)
      have hidx := fun W => gls_index W g n cap i hlt
      clear hcs hcs2 hmok hA
      go_upto_region 5 with (first
        | (refine wpList_load_by rfl 27 (.tmp 17) rfl _ _ rfl HLd.out ?_)
        | (refine wpList_store_row rfl 27 (.tmp 5) (.tmp 18) rfl wr.heap.size A.cells rfl rfl 27 _ (heap_alloc_new wr _) (gcells_info _) rfl (gcells_one _) ?_))
      refine world_cut (fun W => GBlk W wr.heap.size A ∧ Gls W (.slice (some ⟨g, 0, none⟩) n cap) ms ∧ RBlk W blk d ∧ Below w.heap.size w W) ?_ ?_
      · have hbW : Below wr.heap.size wr ((wr.alloc (.cells #[.int .u64 0, .float .f64 0, .float .f64 0, .float .f64 0, .float .f64 0] 27)).setRow wr.heap.size A.cells) := below_setRow ((Below.refl _ _).alloc (Nat.le_refl _) _) _ _ (Nat.le_refl _)
        exact ⟨Blk.row (Blk.new wr _ _) _, HG.out.keep hbW, Blk.keep HR.out hbW, HB.out.trans (hbW.mono HB.out.size)⟩
      have hne : blk ≠ wr.heap.size := by have := Blk.lt HR.out; omega
      obtain ⟨g5, hg5⟩ : ∃ q, q = wr.heap.size := ⟨_, rfl⟩
      rw [← hg5] at hne ⊢
      clear hg5 HG HR HB HLd hidx
      rintro W5 ⟨h1, h2, h3, h4⟩
      have H5 := Lib.hid h1
      have HG5 := Lib.hid h2
      have HR5 := Lib.hid h3
      have HB5 := Lib.hid h4
      clear h1 h2 h3 h4
      have hK : ∀ W W' : World, (GBlk W g5 A ∧ Gls W (.slice (some ⟨g, 0, none⟩) n cap) ms ∧ RBlk W blk d ∧ Below w.heap.size w W) → Below W.heap.size W W' → (GBlk W' g5 A ∧ Gls W' (.slice (some ⟨g, 0, none⟩) n cap) ms ∧ RBlk W' blk d ∧ Below w.heap.size w W') := fun W W' hW hb =>
        ⟨hW.1.keep hb, hW.2.1.keep hb, Blk.keep hW.2.2.1 hb, hW.2.2.2.trans (hb.mono hW.2.2.2.size)⟩
      refine region_tail_by 9 _ [(19, .is (.slice (some ⟨blk, 0, none⟩) n n)), (20, .is (.int .i64 (i : Int))), (21, .is (.int .i64 (i : Int))), (22, .is (.pointer (some ⟨g5, 1, none⟩))), (23, .is (.float .f64 A.m)), (24, .is (.agg A.cells)), (25, flt (rk A.spread)), (26, .sat (fun v _ => ∃ s, v = .agg #[.int .i64 (i : Int), .float .f64 A.m, .float .f64 s] ∧ s < 18446744073709551616 ∧ rk s = rk A.spread) (fun _ _ _ h _ => h)), (27, .is (.pointer (some ⟨blk, i * 3, none⟩)))] [0, 1, 2, 3, 6, 7, 8, 9, 10, 11, 12, 13, 14, 26, 27, 29, 30, 31, 32, 33, 34, 35, 36, 37, 38, 39, 40, 41, 42, 43, 44, 45, 46, 47] (fun W => GBlk W g5 A ∧ Gls W (.slice (some ⟨g, 0, none⟩) n cap) ms ∧ RBlk W blk d ∧ Below w.heap.size w W) (by kernel_rfl) (by kernel_rfl) (by kernel_rfl) (by kernel_rfl) (by kernel_rfl) rfl rfl rfl rfl (by kernel_rfl) (hK _ _ ⟨H5.out, HG5.out, HR5.out, HB5.out⟩ (Below.refl _ _).drew) ?_ ?_
      · refine ⟨?c0, ?c1, ?c2, ?c3, ?c4, ?c5, ?c6, ?c7, ?c8, trivial⟩
        case c0 => exact ask_copy (guard_none rfl) (.tmp 3) (.inl rfl) (by intro k hk; cases hk; rfl)
        case c1 => exact ask_copy (guard_none rfl) (.tmp 4) (.inl rfl) (by intro k hk; cases hk; rfl)
        case c2 => exact ask_copy (guard_none rfl) (.tmp 4) (.inl rfl) (by intro k hk; cases hk; rfl)
        case c3 => exact ask_field (guard_none rfl) _ (.tmp 5) 1 (.pointer (some ⟨g5, 0, none⟩)) (.pointer (some ⟨g5, 1, none⟩)) rfl rfl (by intro k hk; cases hk; rfl) (fun W => by kernel_rfl)
        case c4 => exact ask_load (guard_none rfl) _ (.tmp 22) (.pointer (some ⟨g5, 1, none⟩)) (.float .f64 A.m) rfl rfl (by intro k hk; cases hk; rfl) (fun W hW => load_flt W _ _ (by rw [Blk.cell hW.1]; rfl))
        case c5 => exact ask_load (guard_none rfl) _ (.tmp 5) (.pointer (some ⟨g5, 0, none⟩)) (.agg A.cells) rfl rfl (by intro k hk; cases hk; rfl) (fun W hW => hW.1.loads)
        case c6 => exact ask_call hK (guard_none rfl) _ _ _ #[.agg A.cells] (flt (rk A.spread)) rfl (by kernel_rfl) rfl rfl (by intro k hk; cases hk; rfl) (fun W hW => (gspread_any A W HAok.out).mono fun e w' ⟨r, q1, q2, q3, q4⟩ => ⟨_, q1, ⟨r, rfl, q2, q3⟩, q4⟩)
        case c7 => exact ask_sat (guard_none rfl) (.sat (fun v _ => ∃ s, v = .agg #[.int .i64 (i : Int), .float .f64 A.m, .float .f64 s] ∧ s < 18446744073709551616 ∧ rk s = rk A.spread) (fun _ _ _ h _ => h)) (by intro k hk; cases hk; rfl) (fun x W hW hk => by
            have e21 : x 21 = .int .i64 (i : Int) := hk 21 rfl
            have e23 : x 23 = .float .f64 A.m := hk 23 rfl
            obtain ⟨s, e25, hs1, hs2⟩ : ∃ s, x 25 = .float .f64 s ∧ s < 18446744073709551616 ∧ rk s = rk A.spread := hk 25 rfl
            refine ⟨.agg #[.int .i64 (i : Int), .float .f64 A.m, .float .f64 s], ?_, s, rfl, hs1, hs2⟩
            simp [execOp, evalBy, e21, e23, e25, go_sem])
        case c8 => exact ask_exec (guard_none rfl) (.pointer (some ⟨blk, i * 3, none⟩)) rfl rfl (by intro k hk; cases hk; rfl) (fun W hW => by show ((Instr.indexAt _ _ _ >>= fun v => pure (.value v) : Sem Next)).run _ _ = _; rw [Sem.run_bind]; show ((Instr.indexAt 61 (.slice (some ⟨blk, 0, none⟩) n n) (.int .i64 (i : Int))).run Try.prog W).andThen _ = _; rw [row_index W blk n n i hlt]; rfl)
      · intro a' W7 hW7 hd7 hs7 hf7
        have t0 : a'.tmps.getD 0 undef = us0 0 := hf7 0 rfl
        have t1 : a'.tmps.getD 1 undef = us0 1 := hf7 1 rfl
        have t2 : a'.tmps.getD 2 undef = us0 2 := hf7 2 rfl
        have t3 : a'.tmps.getD 3 undef = .slice (some ⟨blk, 0, none⟩) n n := hf7 3 rfl
        have t6 : a'.tmps.getD 6 undef = us0 6 := hf7 6 rfl
        have t7 : a'.tmps.getD 7 undef = us0 7 := hf7 7 rfl
        have t8 : a'.tmps.getD 8 undef = us0 8 := hf7 8 rfl
        have t9 : a'.tmps.getD 9 undef = us0 9 := hf7 9 rfl
        have t10 : a'.tmps.getD 10 undef = us0 10 := hf7 10 rfl
        have t11 : a'.tmps.getD 11 undef = us0 11 := hf7 11 rfl
        have t12 : a'.tmps.getD 12 undef = .slice (some ⟨g, 0, none⟩) n cap := hf7 12 rfl
        have t13 : a'.tmps.getD 13 undef = .int .i64 (n : Int) := hf7 13 rfl
        have t14 : a'.tmps.getD 14 undef = .int .i64 (i : Int) := hf7 14 rfl
        have t27 : a'.tmps.getD 27 undef = .pointer (some ⟨blk, i * 3, none⟩) := hf7 27 rfl
        have t29 : a'.tmps.getD 29 undef = us0 29 := hf7 29 rfl
        have t30 : a'.tmps.getD 30 undef = us0 30 := hf7 30 rfl
        have t31 : a'.tmps.getD 31 undef = us0 31 := hf7 31 rfl
        have t32 : a'.tmps.getD 32 undef = us0 32 := hf7 32 rfl
        have t33 : a'.tmps.getD 33 undef = us0 33 := hf7 33 rfl
        have t34 : a'.tmps.getD 34 undef = us0 34 := hf7 34 rfl
        have t35 : a'.tmps.getD 35 undef = us0 35 := hf7 35 rfl
        have t36 : a'.tmps.getD 36 undef = us0 36 := hf7 36 rfl
        have t37 : a'.tmps.getD 37 undef = us0 37 := hf7 37 rfl
        have t38 : a'.tmps.getD 38 undef = us0 38 := hf7 38 rfl
        have t39 : a'.tmps.getD 39 undef = us0 39 := hf7 39 rfl
        have t40 : a'.tmps.getD 40 undef = us0 40 := hf7 40 rfl
        have t41 : a'.tmps.getD 41 undef = us0 41 := hf7 41 rfl
        have t42 : a'.tmps.getD 42 undef = us0 42 := hf7 42 rfl
        have t43 : a'.tmps.getD 43 undef = us0 43 := hf7 43 rfl
        have t44 : a'.tmps.getD 44 undef = us0 44 := hf7 44 rfl
        have t45 : a'.tmps.getD 45 undef = us0 45 := hf7 45 rfl
        have t46 : a'.tmps.getD 46 undef = us0 46 := hf7 46 rfl
        have t47 : a'.tmps.getD 47 undef = us0 47 := hf7 47 rfl
        obtain ⟨s, t26, hs1, hs2⟩ : ∃ s, a'.tmps.getD 26 undef = .agg #[.int .i64 (i : Int), .float .f64 A.m, .float .f64 s] ∧ s < 18446744073709551616 ∧ rk s = rk A.spread := hf7 26 rfl
        obtain ⟨us, hus, ha'⟩ := act_open 48 a' hs7 hd7
        rw [← hus] at t0 t1 t2 t3 t6 t7 t8 t9 t10 t11 t12 t13 t14 t27 t29 t30 t31 t32 t33 t34 t35 t36 t37 t38 t39 t40 t41 t42 t43 t44 t45 t46 t47 t26
        have el : ((List.range 48).map us).toArray = #[us 0, us 1, us 2, us 3, us 4, us 5, us 6, us 7, us 8, us 9, us 10, us 11, us 12, us 13, us 14, us 15, us 16, us 17, us 18, us 19, us 20, us 21, us 22, us 23, us 24, us 25, us 26, us 27, us 28, us 29, us 30, us 31, us 32, us 33, us 34, us 35, us 36, us 37, us 38, us 39, us 40, us 41, us 42, us 43, us 44, us 45, us 46, us 47] := rfl
        rw [el] at ha'
        subst ha'
        rw [t0, t1, t2, t3, t6, t7, t8, t9, t10, t11, t12, t13, t14, t27, t29, t30, t31, t32, t33, t34, t35, t36, t37, t38, t39, t40, t41, t42, t43, t44, t45, t46, t47, t26]
        clear hus t0 t1 t2 t3 t6 t7 t8 t9 t10 t11 t12 t13 t14 t27 t29 t30 t31 t32 t33 t34 t35 t36 t37 t38 t39 t40 t41 t42 t43 t44 t45 t46 t47 t26 el hf7 hs7 hd7 hK
        have hdz : d.size = n := by rw [HF.out.1, HNn.out]
        have hst5 := Blk.storesAt (P := Try.prog) hW7.2.2.1 63 (i * 3) (encR (i, A.m, s)) (row_size _) (by rw [encR_length]; simp; omega) (encR_one _)
        rw [flat_patch d i (by omega)] at hst5
        have eb : encR (i, A.m, s) = [.int .i64 (i : Int), .float .f64 A.m, .float .f64 s] := by
          show [Value.int .i64 (i : Int), .float .f64 (b64 A.m), .float .f64 (b64 s)] = _
          unfold b64
          rw [Nat.mod_eq_of_lt HAok.out.m, Nat.mod_eq_of_lt hs1]
        rw [eb] at hst5
        refine wpList_store_by rfl 63 (.tmp 27) (.tmp 26) rfl _ _ rfl rfl _ hst5 ?_
        have hbW := below_setRow hW7.2.2.2 blk (Go.Sort.flatK encR 3 (d.setIfInBounds i (i, A.m, s))) HBlk.out
        have HR8 := Lib.hid (show RBlk (W7.setRow blk (Go.Sort.flatK encR 3 (d.setIfInBounds i (i, A.m, s)))) blk (d.setIfInBounds i (i, A.m, s)) from Blk.row hW7.2.2.1 _)
        have HG8 := Lib.hid (show Gls (W7.setRow blk (Go.Sort.flatK encR 3 (d.setIfInBounds i (i, A.m, s)))) (.slice (some ⟨g, 0, none⟩) n cap) ms by have := HV0.out.keep hbW; rw [HNn.out]; exact this)
        have HF8 := Lib.hid (filled_step (m := A.m) (s := s) HF.out (by have := HNn.out; omega) (by rw [HAg.out]; unfold b64; rw [Nat.mod_eq_of_lt HAok.out.m]) (by rw [HAg.out]; unfold b64; rw [Nat.mod_eq_of_lt hs1]; exact hs2))
        have HB8 := Lib.hid hbW
        clear hst5 hbW hs1 hs2 hW7 eb hdz
        go_wp2
        go_roundw
        case rel => exact ⟨i + 1, _, by omega, by go_num, HG8.out, HR8.out, HF8.out, HB8.out⟩
        case measure => simp [intOf]; omega
    · obtain rfl : i = n := by omega
      clear hlt
      obtain ⟨wo, rfl⟩ : ∃ wo : World, wo = wr := ⟨_, rfl⟩
      have hdz : d.size = i := by rw [HF.out.1, HNn.out]
      have hso := sort_any d blk i wo (RBlk.holds HR.out) (Blk.lt HR.out) (by omega)
      rw [hdz] at hso
      have HSo := Lib.hid hso
      have HDz := Lib.hid hdz
      clear hso hdz
      go_wp2_with fail
      refine HSo.out.mono ?_
      rintro e w3 ⟨rfl, d', hp, hs, hh, hgr⟩
      have HP := Lib.hid (show Placed ms ms.length (d'.toList.map (·.1)) from placed_of_sort (by rw [← HNn.out]; exact HF.out) (by rw [HDz.out]; exact hp) (by rw [HDz.out]; exact hs))
      have HH := Lib.hid hh
      have HSz := Lib.hid (show d'.size = i by rw [hp.1, HDz.out])
      have HB3 := Lib.hid (HB.out.grown hgr HB.out.size (fun k hk => by cases hk; exact HBlk.out))
      have HLt := Lib.hid (show blk < w3.heap.size by have := Blk.lt HR.out; have := hgr.size; omega)
      clear hp hs hh hgr HSo
      go_wp2_with (at_make; refine wpList_make_full _ rfl _ _ 42 rfl w3.heap.size 3 i1 (.int .i64 0) 1 Try.underlying42 hi1 hy0 hy1 _ _ _ _ i rfl rfl rfl rfl (by rw [hy2]; omega) (by unfold maxLen; omega) (Nat.le_refl _) ?_; intro w4 hown hgrow; (have HN4 := Lib.hid (nblk_made hown)); (have HB4 := Lib.hid ((Below.refl w3.heap.size w3).grown hgrow (Nat.le_refl _) (fun k hk => by cases hk))); clear hown hgrow)
      have hH4 : Go.Sort.HoldsK encR 3 w4 blk 0 d' := fun j hj => by
        have h := HH.out j hj
        refine ⟨?_, ?_⟩
        · rw [HB4.out.cell (by exact HLt.out)]; exact h.1
        · rw [HB4.out.frozen (by exact HLt.out)]; exact h.2
      have HH4 := Lib.hid hH4
      have HB5 := Lib.hid (HB3.out.trans (HB4.out.mono HB3.out.size))
      obtain ⟨gp, hgp⟩ : ∃ b, b = w3.heap.size := ⟨_, rfl⟩
      have HGp := Lib.hid (show w.heap.size ≤ gp by have := HB3.out.size; omega)
      have HNeg := Lib.hid (show blk ≠ gp by have := HLt.out; omega)
      have HN5 := Lib.hid (show NBlk w4 gp (List.replicate i 0) by rw [hgp]; exact HN4.out)
      rw [← hgp]
      have HLt4 := Lib.hid (show blk < w4.heap.size from Nat.lt_of_lt_of_le HLt.out HB4.out.size)
      clear hgp hH4 HH HB3 HB4 HN4 HLt HG HR HF HB
      go_loopw [36] (fun s36 wr => ∃ j : Nat, j ≤ i ∧ s36 = .int .i64 (j : Int) ∧ Go.Sort.HoldsK encR 3 wr blk 0 d' ∧ blk < wr.heap.size ∧ NBlk wr gp (sofar d' i j) ∧ Below w.heap.size w wr) (fun s36 _ => i - (intOf s36).toNat)
      case atStart => exact ⟨0, by omega, rfl, HH4.out, by have := Blk.lt HN5.out; have := HLt4.out; omega, by rw [sofar_zero]; exact HN5.out, HB5.out⟩
      case round =>
        obtain ⟨j, hji, rfl, hho, hbl, hnb, hbel⟩ := hrel
        have HH := Lib.hid hho
        have HBl := Lib.hid hbl
        have HN := Lib.hid hnb
        have HB := Lib.hid hbel
        clear hho hbl hnb hbel HH4 HN5 HB5 HLt4
        by_cases hlt : j < i
        · have hidx := fun W => row_index W blk i i j hlt
          have HLd := Lib.hid (rowk_load HH.out j (by have := HSz.out; omega))
          obtain ⟨x, hx⟩ : ∃ x, x = d'[j]! := ⟨_, rfl⟩
          have HXe := Lib.hid hx
          rw [← hx] at HLd
          clear hx
          go_upto_region 12 with (first
            | (refine wpList_load_by rfl 63 (.tmp 39) rfl _ _ rfl HLd.out ?_)
            | (refine wpList_store_row rfl 63 (.tmp 8) (.tmp 40) rfl wr.heap.size (encR x).toArray rfl rfl 63 _ (heap_alloc_new wr _) (by have := row_size x; simpa using this) rfl (encR_all x) ?_))
          refine world_cut (fun W => Blk W wr.heap.size 63 (encR x).toArray ∧ Go.Sort.HoldsK encR 3 W blk 0 d' ∧ blk < W.heap.size ∧ NBlk W gp (sofar d' i j) ∧ Below w.heap.size w W) ?_ ?_
          · have hbW : Below wr.heap.size wr ((wr.alloc (.cells #[.int .i64 0, .float .f64 0, .float .f64 0] 63)).setRow wr.heap.size (encR x).toArray) := below_setRow ((Below.refl _ _).alloc (Nat.le_refl _) _) _ _ (Nat.le_refl _)
            exact ⟨Blk.row (Blk.new wr _ _) _, holdsk_keep HH.out HBl.out hbW, Nat.lt_of_lt_of_le HBl.out hbW.size, Blk.keep HN.out hbW, HB.out.trans (hbW.mono HB.out.size)⟩
          obtain ⟨g8, hg8⟩ : ∃ q, q = wr.heap.size := ⟨_, rfl⟩
          rw [← hg8]
          have HNe8 := Lib.hid (show gp ≠ g8 by have := Blk.lt HN.out; omega)
          clear hg8 HH HN HB HBl HLd hidx
          rintro W6 ⟨h1, h2, h3, h4, h5⟩
          have hc8 : W6.cell? ⟨g8, 0, none⟩ = some (.int .i64 (x.1 : Int)) := by rw [Blk.cell h1]; rfl
          have hlen : (sofar d' i j).length = i := sofar_length (by have := HSz.out; omega) hji
          have hcp : ∃ v0, W6.cell? ⟨gp, j, none⟩ = some v0 := ⟨_, by rw [Blk.cell h4, Array.getElem?_eq_getElem (by simp; omega)]⟩
          obtain ⟨v0, hcp⟩ := hcp
          have hfp : W6.frozen? ⟨gp, j, none⟩ = false := Blk.frozen h4 j
          have hidn := fun W => int_index W gp i i j hlt
          have H2 := Lib.hid h2
          have H3 := Lib.hid h3
          have H4 := Lib.hid h4
          have H5 := Lib.hid h5
          clear h1 h2 h3 h4 h5 hlen
          go_wp2
          go_roundw
          case rel =>
            refine ⟨j + 1, by omega, by go_num, ?_, by simpa using H3.out, ?_, H5.out.setCell HGp.out _⟩
            · exact holdsk_set H2.out _ _ HNeg.out
            · have h := Blk.set H4.out j (nv x.1)
              unfold NBlk
              rw [nblk_set, HXe.out, ← sofar_step (by have := HSz.out; omega) hlt] at h
              rw [← HXe.out] at h
              exact h
          case measure => simp [intOf]; omega
        · obtain rfl : j = i := by omega
          go_wp2
          go_ret
          refine ⟨gp, d'.toList.map (·.1), rfl, ?_, ?_, HGp.out, HB.out⟩
          · have h := HN.out
            rw [sofar_all (by have := HSz.out; omega)] at h
            exact h
          · have h := HP.out
            rw [← HNn.out] at h
            exact h

end Go.Proofs.Ytoabhnbifbdknaa
