/- The reference's Insert. -/
import Derived.Test.YtaanhddgmiggfaaGreatRNorm
namespace Go.Proofs.YtaanhddgmiggfaaGreat.Ref
open Go.RowKit Go.Joins Go.Shelf Go.Sort Num

theorem row2_cells {W : World} {b off : Nat} {c : List Pt} (h : Row2 W b off c) : ∀ j u, (ptsOf c)[j]? = some u → W.cell? ((⟨b, off, none⟩ : Addr).add j) = some u := by
  intro j u hu
  have hj : j < c.length * 2 := by
    have := (List.getElem?_eq_some_iff.1 hu).1
    rwa [ptsOf_length] at this
  have hq : j / 2 < c.length := by omega
  obtain ⟨h0, h1⟩ := h (j / 2) c[j / 2] (List.getElem?_eq_getElem hq)
  have hf := flat_pts c (j / 2) (j % 2) c[j / 2] (List.getElem?_eq_getElem hq) (Nat.mod_lt _ (by decide))
  rw [show j / 2 * 2 + j % 2 = j by omega, hu] at hf
  have ha : ((⟨b, off, none⟩ : Addr).add j) = ⟨b, off + j, none⟩ := by unfold Addr.add; split <;> simp_all
  rw [ha, hf]
  have hr : j % 2 < 2 := Nat.mod_lt _ (by decide)
  rcases show j % 2 = 0 ∨ j % 2 = 1 by omega with e | e
  · rw [e, show off + j = off + j / 2 * 2 by omega, h0]; rfl
  · rw [e, show off + j = off + j / 2 * 2 + 1 by omega, h1]; rfl
theorem onep_all (c : List Pt) : ∀ u ∈ ptsOf c, u.oneCell' = true := by
  intro u hu
  unfold ptsOf at hu
  obtain ⟨x, -, hx⟩ := List.mem_flatMap.1 hu
  exact one_pt x u hx
theorem ptsOf_append (a b : List Pt) : ptsOf (a ++ b) = ptsOf a ++ ptsOf b := by simp [ptsOf]
/-- A row that is nil where it is empty, or stands at a block's beginning. -/
def OutP (W : World) (v : Value) (L : List Pt) : Prop :=
  (v = .slice none 0 0 ∧ L = []) ∨ ∃ g cap, v = .slice (some ⟨g, 0, none⟩) L.length cap ∧ 0 < cap ∧ L.length ≤ cap ∧ g < W.heap.size ∧ Row2 W g 0 L
theorem OutP.nil (W : World) : OutP W (.slice none 0 0) [] := .inl ⟨rfl, rfl⟩
theorem OutP.keep {W W' : World} {v : Value} {L : List Pt} (h : OutP W v L) (hb : Below W.heap.size W W') : OutP W' v L := by
  rcases h with h | ⟨g, cap, h1, h2, h3, h4, h5⟩
  · exact .inl h
  · exact .inr ⟨g, cap, h1, h2, h3, Nat.lt_of_lt_of_le h4 hb.size, h5.below hb h4⟩
theorem OutP.form {W : World} {v : Value} {L : List Pt} (h : OutP W v L) : ∃ A cap, v = .slice A L.length cap := by
  rcases h with ⟨h1, h2⟩ | ⟨g, cap, h1, -⟩
  · subst h2; exact ⟨_, _, h1⟩
  · exact ⟨_, _, h1⟩
theorem OutP.of_own {base : Nat} {W : World} {g cap : Nat} {L : List Pt} (h : W.ownsRow base 25 2 (.slice (some ⟨g, 0, none⟩) L.length cap) L.length (ptsOf L)) (hL : L ≠ []) : OutP W (.slice (some ⟨g, 0, none⟩) L.length cap) L := by
  obtain ⟨-, hlt⟩ := own_lt h
  have hc : L.length ≤ cap := by
    rcases h.2 with ⟨k, _⟩ | ⟨g', c', cur, k, _, _, hnc, _⟩
    · simp at k
    · simp only [Value.slice.injEq] at k; omega
  have hp := List.length_pos_iff.2 hL
  exact .inr ⟨g, cap, rfl, by omega, hc, hlt, own_pts h⟩
theorem OutP.of_own' {base : Nat} {W : World} {g l cap : Nat} {M : List Pt} {xs : List Value} (h : W.ownsRow base 25 2 (.slice (some ⟨g, 0, none⟩) l cap) l xs) (hl : l = M.length) (hx : xs = ptsOf M) (hM : M ≠ []) : OutP W (.slice (some ⟨g, 0, none⟩) l cap) M := by
  subst hl hx
  exact .of_own h hM
theorem row2_take {W : World} {b off : Nat} {c : List Pt} (n : Nat) (h : Row2 W b off c) : Row2 W b off (c.take n) := fun j x hx => by
  refine h j x ?_
  rw [List.getElem?_take] at hx
  split at hx
  · exact hx
  · cases hx
theorem row2_drop {W : World} {b off : Nat} {c : List Pt} (n : Nat) (h : Row2 W b off c) : Row2 W b (off + n * 2) (c.drop n) := fun j x hx => by
  rw [List.getElem?_drop] at hx
  have := h (n + j) x hx
  rwa [show off + (n + j) * 2 = off + n * 2 + j * 2 by rw [Nat.add_mul]; omega] at this
/-- The first n elements. -/
theorem cutP_to {W : World} {v : Value} {L : List Pt} (h : OutP W v L) (n : Nat) (hn : n ≤ L.length) :
    ∃ v', (∀ w : World, (Instr.slice 44 v none (some (.int .i64 ↑n)) none).run Tryz.prog w = .ok v' w) ∧ ∀ W' : World, Below W.heap.size W W' → Part W' v' n (ptsOf (L.take n)) := by
  rcases h with ⟨rfl, rfl⟩ | ⟨g, cap, rfl, h1, h2, h3, h4⟩
  · obtain rfl : n = 0 := by simpa using hn
    refine ⟨.slice none 0 0, fun w => ?_, fun _ _ => .inl ⟨rfl, rfl, rfl⟩⟩
    rw [run_slice_h w 44 _ 0 0 (by kernel_rfl) .i64 ((0 : Nat) : Int) (by omega) (by omega)]
    have e2 : (sizeOf (Tryz.prog.elem 44)).run Tryz.prog w = .ok 2 w := by kernel_rfl
    rw [e2]
    rfl
  · refine ⟨.slice (some ⟨g, 0, none⟩) n cap, fun w => ?_, fun W' hW => .inr ⟨_, _, rfl, row2_cells ((row2_take n h4).below hW h3)⟩⟩
    rw [run_slice_h w 44 _ L.length cap (by kernel_rfl) .i64 ↑n (by omega) (by omega)]
    have e2 : (sizeOf (Tryz.prog.elem 44)).run Tryz.prog w = .ok 2 w := by kernel_rfl
    rw [Int.toNat_natCast, e2]
    simp only [Result.andThen, sliced]
    simp [show ¬ cap = 0 by omega, Addr.add]
/-- The elements from n on. -/
theorem cutP_from {W : World} {v : Value} {L : List Pt} (h : OutP W v L) (n : Nat) (hn : n ≤ L.length) :
    ∃ v', (∀ w : World, (Instr.slice 44 v (some (.int .i64 ↑n)) none none).run Tryz.prog w = .ok v' w) ∧ ∀ W' : World, Below W.heap.size W W' → Part W' v' (L.length - n) (ptsOf (L.drop n)) := by
  rcases h with ⟨rfl, rfl⟩ | ⟨g, cap, rfl, h1, h2, h3, h4⟩
  · obtain rfl : n = 0 := by simpa using hn
    refine ⟨.slice none 0 0, fun w => ?_, fun _ _ => .inl ⟨rfl, rfl, rfl⟩⟩
    rw [run_slice_l w 44 _ 0 0 (by kernel_rfl) .i64 ((0 : Nat) : Int) (by omega) (by omega)]
    have e2 : (sizeOf (Tryz.prog.elem 44)).run Tryz.prog w = .ok 2 w := by kernel_rfl
    rw [e2]
    rfl
  · have e2 : ∀ w, (sizeOf (Tryz.prog.elem 44)).run Tryz.prog w = .ok 2 w := fun w => by kernel_rfl
    by_cases hc : cap = n
    · have hln : L.length = n := by omega
      refine ⟨.slice (some ⟨g, 0, none⟩) (L.length - n) (cap - n), fun w => ?_, fun W' hW => .inr ⟨_, _, rfl, fun j u hu => ?_⟩⟩
      · rw [run_slice_l w 44 _ L.length cap (by kernel_rfl) .i64 ↑n (by omega) (by omega), Int.toNat_natCast, e2]
        simp only [Result.andThen, sliced]
        simp [hc]
      · rw [List.drop_eq_nil_of_le (by omega)] at hu
        cases hu
    · refine ⟨.slice (some ⟨g, n * 2, none⟩) (L.length - n) (cap - n), fun w => ?_, fun W' hW => .inr ⟨_, _, rfl, row2_cells ?_⟩⟩
      · rw [run_slice_l w 44 _ L.length cap (by kernel_rfl) .i64 ↑n (by omega) (by omega), Int.toNat_natCast, e2]
        simp only [Result.andThen, sliced]
        simp [hc, Addr.add]
        intro h; omega
      · have := row2_drop n (h4.below hW h3)
        rwa [Nat.zero_add] at this
theorem OutP.cells {W : World} {A : Option Addr} {cap : Nat} {L : List Pt} (h : OutP W (.slice A L.length cap) L) (hne : L ≠ []) : ∃ g, A = some ⟨g, 0, none⟩ ∧ g < W.heap.size ∧ Row2 W g 0 L := by
  rcases h with ⟨_, h2⟩ | ⟨g, c', h1, _, _, h4, h5⟩
  · exact absurd h2 hne
  · simp only [Value.slice.injEq] at h1
    exact ⟨g, h1.1, h4, h5⟩
theorem inc_take_all {L : List Pt} {n : Nat} {x : Pt} (h : Inc L) (hn : n ≤ L.length) (hgo : ¬ ∃ j y, n = j + 1 ∧ L[j]? = some y ∧ x.q < y.q) : ∀ z ∈ L.take n, z.q ≤ x.q := by
  cases n with
  | zero => intro z hz; simp at hz
  | succ j =>
    have hy : L[j]? = some (L[j]'(by omega)) := List.getElem?_eq_getElem (by omega)
    exact inc_take_le h hy (Rat.not_lt.1 fun k => hgo ⟨j, _, rfl, hy, k⟩)
/-- If the last of the first n is not x, all of them are below x. -/
theorem inc_take_lt {L : List Pt} {n : Nat} {x : Pt} (h : Inc L) (hle : ∀ z ∈ L.take n, z.q ≤ x.q) (hne : ∀ j, n = j + 1 → L[j]? ≠ some x) (hn : n ≤ L.length) : ∀ z ∈ L.take n, z.q < x.q := by
  intro z hz
  rcases Rat.le_iff_lt_or_eq.1 (hle z hz) with k | k
  · exact k
  · exfalso
    obtain ⟨i, hi⟩ := List.mem_iff_getElem?.1 hz
    have hzx : z = x := Pt.ext' k
    subst hzx
    rw [List.getElem?_take] at hi
    split at hi
    · rename_i hin
      cases n with
      | zero => omega
      | succ j =>
        by_cases e : i = j
        · subst e; exact hne i rfl hi
        · have hj : L[j]? = some (L[j]'(by omega)) := List.getElem?_eq_getElem (by omega)
          have hm : L[j]'(by omega) ∈ L.take (j + 1) := by
            rw [List.mem_iff_getElem?]
            exact ⟨j, by rw [List.getElem?_take, if_pos (Nat.lt_succ_self j)]; exact hj⟩
          have h1 := hle _ hm
          have hp := List.pairwise_iff_getElem.1 h i j (by omega) (by omega) (by omega)
          have h2 : L[i]'(by omega) = z := by
            have := List.getElem?_eq_getElem (l := L) (i := i) (by omega)
            rw [hi] at this
            exact (Option.some.inj this).symm
          rw [h2] at hp
          exact absurd h1 (Rat.not_le.2 hp)
    · cases hi

set_option maxRecDepth 100000 in
set_option maxHeartbeats 8000000 in
theorem insert_any (v : Value) (L : List Pt) (x : Pt) (hL : Inc L) (hlen : L.length ≤ 1048576) (w : World) (hO : OutP w v L) :
    Calls Tryz.prog 74 #[v, .agg #[.int .i64 x.q.num, .int .i64 x.q.den]] w fun e w' => ∃ v M, e = .returned v ∧ OutP w' v M ∧ insP L x M ∧ M.length ≤ L.length + 1 ∧ Below w.heap.size w w' := by
  obtain ⟨i0, hi, hz0, hz1, hz2⟩ := info_parts infoR
  have HC : Hid (∀ (x y : Pt) (W : World), _) := fun x y W => cmp_r x.h y.h W
  obtain ⟨Ao, co, rfl⟩ := hO.form
  have hB0 := (Below.refl w.heap.size w).alloc (Nat.le_refl _) (.cells #[.int .i64 x.q.num, .int .i64 x.q.den] 25)
  have bX : BoxN (w.alloc (.cells #[.int .i64 x.q.num, .int .i64 x.q.den] 25)) w.heap.size 25 #[.int .i64 x.q.num, .int .i64 x.q.den] := BoxN.new w _ _
  have hO1 := hO.keep hB0
  go_enter Tryz.func74, Tryz.ntmps74
  go_wp2_with fail
  generalize w.alloc (.cells #[.int .i64 x.q.num, .int .i64 x.q.den] 25) = w1 at hB0 bX hO1 ⊢
  have hbw := bX.lt
  obtain ⟨bx, hbx⟩ : ∃ bx, w.heap.size = bx := ⟨_, rfl⟩
  rw [hbx] at bX hbw ⊢
  have Hbx := Lib.hid hbx
  clear hO hbx
  go_loopw [5] (fun s wx => ∃ n : Nat, n ≤ L.length ∧ s = .int .i64 ↑n ∧ Hid (∀ y ∈ L.drop n, x.q < y.q) ∧ OutP wx (.slice Ao L.length co) L ∧ Below w1.heap.size w1 wx)
    (fun s _ => (intOf s).toNat)
  case atStart => exact ⟨L.length, Nat.le_refl _, rfl, Lib.hid (show ∀ y ∈ L.drop L.length, x.q < y.q from fun y hy => by rw [List.drop_length] at hy; cases hy), hO1, Below.refl _ _⟩
  case round =>
    obtain ⟨n, hn, rfl, hdr, hO2, hB2⟩ := hrel
    clear hO1
    have bX2 := bX.below hB2 hbw
    have x0 : wr.cell? ⟨bx, 0, none⟩ = some (.int .i64 x.q.num) := bX2.cell 0
    have x1 : wr.cell? ⟨bx, 1, none⟩ = some (.int .i64 x.q.den) := bX2.cell 1
    have hbz := bX2.lt
    have p0 := Gr.cell x0 hbz
    have p1 := Gr.cell x1 hbz
    haveI : Nonempty (Wd (Gr wr)) := ⟨⟨wr, Below.refl _ _⟩⟩
    have hafter : ∀ s0 : Wd (Gr wr), Below wr.heap.size wr s0.val := fun s0 => s0.ok
    have Haf := Lib.hid hafter
    have HO2 := Lib.hid hO2
    have HbX := Lib.hid bX2
    clear hafter x0 x1 bX2
    by_cases hgo : ∃ j y, n = j + 1 ∧ L[j]? = some y ∧ x.q < y.q
    · obtain ⟨j, y, hj, hy, hxy⟩ := hgo
      have hn' := Lib.hid (show ∀ z ∈ L.drop j, x.q < z.q from fun z hz => by
        rw [drop_cons hy, List.mem_cons] at hz
        rcases hz with rfl | hz
        · exact hxy
        · exact hdr.out z (by rw [hj]; exact hz))
      obtain ⟨g, rfl, hg, hrowL⟩ := HO2.out.cells (by intro h; subst h; simp at hy)
      obtain ⟨y0, y1⟩ := hrowL j y hy
      simp only [Nat.zero_add] at y0 y1
      have q0 := Gr.cell y0 hg
      have q1 := Gr.cell y1 hg
      have hjl : j < L.length := (List.getElem?_eq_some_iff.1 hy).1
      have z1 : 0 < (n : Int) := by omega
      have i1 : IntKind.i64.wrap ((n : Int) - 1) = j := by rw [IntWalk.i64_in _ (by omega)]; omega
      have i3 : (n : Int) - 1 = j := by omega
      have hk1 := cmpQ_pos.2 hxy
      have HC1 := HC.out y x
      generalize cmpQ y.q x.q = k1 at HC1 hk1
      have HC1 := Lib.hid HC1
      clear hxy y0 y1 hrowL hy
      go_wp2_with fail
      refine wp_region_cls (Gr wr) (by kernel_rfl) (by kernel_rfl) (Gr.start wr) ?_
      repeat (go_big_quiet_step (first | (go_at_call 61; (with_reducible exact Calls.cls Gr.close (HC1.out _)))))
      refine wpQuiet_nil ?_
      intro _ hw'
      obtain ⟨s0, rfl⟩ := hw'
      have hb3 := Haf.out s0
      clear p0 p1 q0 q1
      generalize s0.val = v1 at hb3 ⊢
      go_wp2
      go_roundw
      case rel => exact ⟨j, by omega, by go_num, hn'.out, HO2.out.keep hb3, hB2.trans (hb3.mono hB2.size)⟩
      case measure => simp [intOf]; omega
    · have hle := Lib.hid (inc_take_all (x := x) hL hn hgo)
      clear hgo
      by_cases h0 : 0 < n
      case' pos =>
        obtain ⟨j, hj⟩ : ∃ j, n = j + 1 := ⟨n - 1, by omega⟩
        obtain ⟨y, hy⟩ : ∃ y, L[j]? = some y := ⟨_, List.getElem?_eq_getElem (by omega)⟩
        have hyx : y.q ≤ x.q := hle.out y (by rw [List.mem_iff_getElem?]; exact ⟨j, by rw [List.getElem?_take, if_pos (by omega)]; exact hy⟩)
        obtain ⟨g, rfl, hg, hrowL⟩ := HO2.out.cells (by intro h; subst h; simp at hy)
        obtain ⟨y0, y1⟩ := hrowL j y hy
        simp only [Nat.zero_add] at y0 y1
        have q0 := Gr.cell y0 hg
        have q1 := Gr.cell y1 hg
        have hjl : j < L.length := (List.getElem?_eq_some_iff.1 hy).1
        have z1 : 0 < (n : Int) := by omega
        have i1 : IntKind.i64.wrap ((n : Int) - 1) = j := by rw [IntWalk.i64_in _ (by omega)]; omega
        have i3 : (n : Int) - 1 = j := by omega
        have hk1 := cmpQ_le.2 hyx
        have Hj := Lib.hid hj
        clear hj
        have HC1 := HC.out y x
        generalize cmpQ y.q x.q = k1 at HC1 hk1
        have hk2 : ¬ 0 < k1 := by omega
        have hk3 : decide (0 < k1) = false := by simp; omega
        have HC1 := Lib.hid HC1
        have Hy0 := Lib.hid y0
        have Hy1 := Lib.hid y1
        have Hy := Lib.hid hy
        clear hyx y0 y1 hrowL hy
        go_wp2_with fail
        refine wp_region_cls (Gr wr) (by kernel_rfl) (by kernel_rfl) (Gr.start wr) ?_
        repeat (go_big_quiet_step (first | (go_at_call 61; (with_reducible exact Calls.cls Gr.close (HC1.out _)))))
        refine wpQuiet_nil ?_
        intro _ hw'
        obtain ⟨s0, rfl⟩ := hw'
        have hb3 := Haf.out s0
        clear p0 p1 q0 q1 HC1 hk1 hk2 hk3
        generalize s0.val = v1 at hb3 ⊢
        have y0 := (hb3.cell (p := ⟨g, j * 2, none⟩) hg).trans Hy0.out
        have y1 := (hb3.cell (p := ⟨g, j * 2 + 1, none⟩) hg).trans Hy1.out
        have x0 := (hb3.cell (p := ⟨bx, 0, none⟩) hbz).trans (HbX.out.cell 0)
        have x1 := (hb3.cell (p := ⟨bx, 1, none⟩) hbz).trans (HbX.out.cell 1)
        have hgz : g < v1.heap.size := Nat.lt_of_lt_of_le hg hb3.size
        have hbz2 : bx < v1.heap.size := Nat.lt_of_lt_of_le hbz hb3.size
        have heq := fun W => eq_p (x := y) (y := x) W
        rcases Decidable.em (y = x) with hyx | hyx
        · rw [decide_eq_true hyx] at heq
          have hmem : Hid (x ∈ L) := by have := List.mem_of_getElem? Hy.out; rw [hyx] at this; exact this
          have hO3 := Lib.hid (HO2.out.keep hb3)
          have hB3 := Lib.hid (hB2.trans (hb3.mono hB2.size))
          clear hyx hb3
          go_wp2_with fail
          go_quiet (fail)
          rename_i nq
          have hB4 := below_drewN hB3.out nq
          have hO4 := hO3.out.keep (below_drewN (Below.refl _ v1) nq)
          clear x0 x1 y0 y1 heq
          generalize v1.drewN nq = wq at hB4 hO4 ⊢
          go_wp2
          go_ret
          exact ⟨_, L, rfl, hO4, insP_same hL hmem.out, by omega, by have := Hbx.out; subst this; exact hB0.trans (hB4.mono hB0.size)⟩
        rw [decide_eq_false hyx] at heq
        have hlt := Lib.hid (inc_take_lt hL hle.out (fun j' e => by
          have : j' = j := by have := Hj.out; omega
          subst this
          rw [Hy.out]
          exact fun e => hyx (Option.some.inj e)) hn)
        have hO3 := Lib.hid (HO2.out.keep hb3)
        have hB3 := Lib.hid (hB2.trans (hb3.mono hB2.size))
        have HbX3 := Lib.hid (HbX.out.below hb3 hbz)
        clear hyx hb3
        go_wp2_with fail
        go_quiet (fail)
        rename_i nq
        have hB4 := Lib.hid (below_drewN hB3.out nq)
        have hO4 := hO3.out.keep (below_drewN (Below.refl _ v1) nq)
        have bX4 := HbX3.out.below (below_drewN (Below.refl _ v1) nq) hbz2
        clear x0 x1 y0 y1 heq hgz hO3 hB3 HbX3 Hy0 Hy1 Hy Hj i1 i3 z1 hjl hg
        generalize v1.drewN nq = wq at hB4 hO4 bX4 ⊢
        clear hbz2
      case' neg =>
        have z1 : decide (0 < (n : Int)) = false := by simp; omega
        have z2 : ¬ 0 < (n : Int) := by omega
        have hlt := Lib.hid (show ∀ z ∈ L.take n, z.q < x.q from fun z hz => by
          obtain rfl : n = 0 := by omega
          simp at hz)
        go_wp2_with fail
        refine wp_region_cls (Gr wr) (by kernel_rfl) (by kernel_rfl) (Gr.start wr) ?_
        repeat (go_big_quiet_step (fail))
        refine wpQuiet_nil ?_
        intro _ hw'
        obtain ⟨s0, rfl⟩ := hw'
        have hb3 := Haf.out s0
        clear p0 p1
        generalize s0.val = v1 at hb3 ⊢
        have hO3 := Lib.hid (HO2.out.keep hb3)
        have hB3 := Lib.hid (hB2.trans (hb3.mono hB2.size))
        have HbX3 := Lib.hid (HbX.out.below hb3 hbz)
        have hbz2 : bx < v1.heap.size := Nat.lt_of_lt_of_le hbz hb3.size
        clear hb3
        go_wp2_with fail
        go_quiet (fail)
        rename_i nq
        have hB4 := Lib.hid (below_drewN hB3.out nq)
        have hO4 := hO3.out.keep (below_drewN (Below.refl _ v1) nq)
        have bX4 := HbX3.out.below (below_drewN (Below.refl _ v1) nq) hbz2
        clear hO3 hB3 HbX3 z1 z2
        generalize v1.drewN nq = wq at hB4 hO4 bX4 ⊢
        clear hbz2
      all_goals
        clear hbz HO2 HbX Haf hB2 hle
        have hbz1 := bX4.lt
        have x0 : wq.cell? ⟨bx, 0, none⟩ = some (.int .i64 x.q.num) := bX4.cell 0
        have x1 : wq.cell? ⟨bx, 1, none⟩ = some (.int .i64 x.q.den) := bX4.cell 1
        obtain ⟨v39, hs39, hp39⟩ := cutP_to hO4 n hn
        obtain ⟨v49, hs49, hp49⟩ := cutP_from hO4 n hn
        have Hp39 := Lib.hid hp39
        have Hp49 := Lib.hid hp49
        clear hp39 hp49 hO4 bX4
        go_wp2_with fail
        have hl39 := Lib.hid (show (ptsOf (L.take n)).length = n * 2 by rw [ptsOf_length, List.length_take, Nat.min_eq_left hn])
        have hl49 := Lib.hid (show (ptsOf (L.drop n)).length = (L.length - n) * 2 by rw [ptsOf_length, List.length_drop])
        have hm39 := Lib.hid (show 0 + n ≤ maxLen by unfold maxLen; omega)
        have hm46 := Lib.hid (show n + 1 ≤ maxLen by unfold maxLen; omega)
        have hm50 := Lib.hid (show n + 1 + (L.length - n) ≤ maxLen by unfold maxLen; omega)
        have hy39 := Lib.hid (show (0 + n) * 16 ≤ 140737488355328 by omega)
        have hy46 := Lib.hid (show (n + 1) * 16 ≤ 140737488355328 by omega)
        have hy50 := Lib.hid (show (n + 1 + (L.length - n)) * 16 ≤ 140737488355328 by omega)
        have hone := Lib.hid (show ∀ u ∈ ([.int .i64 x.q.num, .int .i64 x.q.den] : List Value), u.oneCell' = true from one_pt x)
        go_region_law (first
          | (refine step_app rfl (.tmp 34) (.tmp 37) 44 rfl wq.heap.size 25 i0 _ 2 16 Tryz.underlying44 hi hz0 hz1 hz2 rfl (by decide) wq.heap.size 0 0 [] v39 n (ptsOf (L.take n)) ?_ ?_ (World.ownsRow.drew (own_empty (base := wq.heap.size) _ 25 2 wq.heap.size (by simp <;> fail) (Nat.le_refl _))) (Hp39.out _ (by (repeat' (first | (with_reducible exact Below.refl _ _) | (with_reducible refine below_drewN ?_ _) | (with_reducible refine Below.drew ?_) | (with_reducible refine Below.setCell ?_ ?_ _) | (with_reducible refine Below.alloc ?_ ?_ _) | go_size)))) hl39.out (onep_all _) hm39.out hy39.out ?_ ?_; (simp [Act.eval] <;> fail); (simp [Act.eval] <;> fail); (first | omega | (simp <;> fail) | (simp; omega)); intro g1 cap1 w1 hown1 hgrow1; have hb1 : Below wq.heap.size wq w1 := Below.grown (by (repeat' (first | (with_reducible exact Below.refl _ _) | (with_reducible refine below_drewN ?_ _) | (with_reducible refine Below.drew ?_) | (with_reducible refine Below.setCell ?_ ?_ _) | (with_reducible refine Below.alloc ?_ ?_ _) | go_size))) hgrow1 (by first | omega | (simp; done) | (simp; omega)) (fun j e => by cases e; omega); simp only [Nat.zero_add, List.nil_append] at hown1; have hzw1 : wq.heap.size < w1.heap.size := (by have := hgrow1.size; (try simp at this); omega); have x0 := (hb1.cell (p := ⟨bx, 0, none⟩) hbz1).trans x0; have x1 := (hb1.cell (p := ⟨bx, 1, none⟩) hbz1).trans x1; have hbw : bx < w1.heap.size := by omega)
          | (refine step_app rfl (.tmp 34) (.tmp 37) 44 rfl wq.heap.size 25 i0 _ 2 16 Tryz.underlying44 hi hz0 hz1 hz2 rfl (by decide) wq.heap.size 0 0 [] v39 n (ptsOf (L.take n)) ?_ ?_ (World.ownsRow.drew ((own_empty (base := wq.heap.size) _ 25 2 wq.heap.size (by simp <;> fail) (Nat.le_refl _)).alloc _)) (Hp39.out _ (by (repeat' (first | (with_reducible exact Below.refl _ _) | (with_reducible refine below_drewN ?_ _) | (with_reducible refine Below.drew ?_) | (with_reducible refine Below.setCell ?_ ?_ _) | (with_reducible refine Below.alloc ?_ ?_ _) | go_size)))) hl39.out (onep_all _) hm39.out hy39.out ?_ ?_; (simp [Act.eval] <;> fail); (simp [Act.eval] <;> fail); (first | omega | (simp <;> fail) | (simp; omega)); intro g1 cap1 w1 hown1 hgrow1; have hb1 : Below wq.heap.size wq w1 := Below.grown (by (repeat' (first | (with_reducible exact Below.refl _ _) | (with_reducible refine below_drewN ?_ _) | (with_reducible refine Below.drew ?_) | (with_reducible refine Below.setCell ?_ ?_ _) | (with_reducible refine Below.alloc ?_ ?_ _) | go_size))) hgrow1 (by first | omega | (simp; done) | (simp; omega)) (fun j e => by cases e; omega); simp only [Nat.zero_add, List.nil_append] at hown1; have hzw1 : wq.heap.size < w1.heap.size := (by have := hgrow1.size; (try simp at this); omega); have hel : Part w1 (.slice (some ⟨wq.heap.size + 1, 0, none⟩) 1 1) 1 [.int .i64 x.q.num, .int .i64 x.q.den] := Part.grown (part_new _ #[.int .i64 x.q.num, .int .i64 x.q.den] 25 1 1 _ (by simp <;> fail)) hgrow1 (by simp <;> omega) (by omega))
          | (refine step_app rfl (.tmp 34) (.tmp 37) 44 rfl wq.heap.size 25 i0 _ 2 16 Tryz.underlying44 hi hz0 hz1 hz2 rfl (by decide) (wq.heap.size + 1) 0 0 [] v39 n (ptsOf (L.take n)) ?_ ?_ (World.ownsRow.drew (own_empty (base := wq.heap.size) _ 25 2 (wq.heap.size + 1) (by simp <;> fail) (by omega))) (Hp39.out _ (by (repeat' (first | (with_reducible exact Below.refl _ _) | (with_reducible refine below_drewN ?_ _) | (with_reducible refine Below.drew ?_) | (with_reducible refine Below.setCell ?_ ?_ _) | (with_reducible refine Below.alloc ?_ ?_ _) | go_size)))) hl39.out (onep_all _) hm39.out hy39.out ?_ ?_; (simp [Act.eval] <;> fail); (simp [Act.eval] <;> fail); (first | omega | (simp <;> fail) | (simp; omega)); intro g1 cap1 w1 hown1 hgrow1; have hb1 : Below wq.heap.size wq w1 := Below.grown (by (repeat' (first | (with_reducible exact Below.refl _ _) | (with_reducible refine below_drewN ?_ _) | (with_reducible refine Below.drew ?_) | (with_reducible refine Below.setCell ?_ ?_ _) | (with_reducible refine Below.alloc ?_ ?_ _) | go_size))) hgrow1 (by first | omega | (simp; done) | (simp; omega)) (fun j e => by cases e; omega); simp only [Nat.zero_add, List.nil_append] at hown1; have hzw1 : wq.heap.size < w1.heap.size := (by have := hgrow1.size; (try simp at this); omega); have hel : Part w1 (.slice (some ⟨wq.heap.size, 0, none⟩) 1 1) 1 [.int .i64 x.q.num, .int .i64 x.q.den] := Part.grown (part_old _ #[.int .i64 x.q.num, .int .i64 x.q.den] 25 _ 1 1 _ (by simp <;> fail)) hgrow1 (by simp <;> omega) (by omega))
          | (refine step_app rfl (.tmp 38) (.tmp 40) 44 rfl wq.heap.size 25 i0 _ 2 16 Tryz.underlying44 hi hz0 hz1 hz2 rfl (by decide) g1 n cap1 (ptsOf (L.take n)) (.slice (some ⟨w1.heap.size, 0, none⟩) 1 1) 1 [.int .i64 x.q.num, .int .i64 x.q.den] ?_ ?_ (hown1.alloc _) (part_block (cs := #[.int .i64 x.q.num, .int .i64 x.q.den]) (t := 25) (heap_alloc_new _ _)) rfl hone.out hm46.out hy46.out ?_ ?_; (simp [Act.eval] <;> fail); (simp [Act.eval] <;> fail); (first | omega | (simp <;> fail) | (simp; omega)); intro g2 cap2 w2 hown2 hgrow2; have hb2 : Below wq.heap.size wq w2 := Below.grown (by first | exact hb1 | exact hb1.alloc (by omega) _) hgrow2 (by first | omega | (simp; done) | (simp; omega)) (fun j e => by cases e; exact own_base4 hown1); have hz2' : wq.heap.size < w2.heap.size := (by have := hgrow2.size; (try simp at this); omega))
          | (refine step_app rfl (.tmp 38) (.tmp 40) 44 rfl wq.heap.size 25 i0 _ 2 16 Tryz.underlying44 hi hz0 hz1 hz2 rfl (by decide) g1 n cap1 (ptsOf (L.take n)) (.slice (some ⟨(wq.heap.size + 1), 0, none⟩) 1 1) 1 [.int .i64 x.q.num, .int .i64 x.q.den] ?_ ?_ hown1 hel rfl hone.out hm46.out hy46.out ?_ ?_; (simp [Act.eval] <;> fail); (simp [Act.eval] <;> fail); (first | omega | (simp <;> fail) | (simp; omega)); intro g2 cap2 w2 hown2 hgrow2; have hb2 : Below wq.heap.size wq w2 := Below.grown (by first | exact hb1 | exact hb1.alloc (by omega) _) hgrow2 (by first | omega | (simp; done) | (simp; omega)) (fun j e => by cases e; exact own_base4 hown1); have hz2' : wq.heap.size < w2.heap.size := (by have := hgrow2.size; (try simp at this); omega))
          | (refine step_app rfl (.tmp 38) (.tmp 40) 44 rfl wq.heap.size 25 i0 _ 2 16 Tryz.underlying44 hi hz0 hz1 hz2 rfl (by decide) g1 n cap1 (ptsOf (L.take n)) (.slice (some ⟨wq.heap.size, 0, none⟩) 1 1) 1 [.int .i64 x.q.num, .int .i64 x.q.den] ?_ ?_ hown1 hel rfl hone.out hm46.out hy46.out ?_ ?_; (simp [Act.eval] <;> fail); (simp [Act.eval] <;> fail); (first | omega | (simp <;> fail) | (simp; omega)); intro g2 cap2 w2 hown2 hgrow2; have hb2 : Below wq.heap.size wq w2 := Below.grown (by first | exact hb1 | exact hb1.alloc (by omega) _) hgrow2 (by first | omega | (simp; done) | (simp; omega)) (fun j e => by cases e; exact own_base4 hown1); have hz2' : wq.heap.size < w2.heap.size := (by have := hgrow2.size; (try simp at this); omega))
          | (refine step_app rfl (.tmp 41) (.tmp 44) 44 rfl wq.heap.size 25 i0 _ 2 16 Tryz.underlying44 hi hz0 hz1 hz2 rfl (by decide) g2 (n + 1) cap2 (ptsOf (L.take n) ++ [.int .i64 x.q.num, .int .i64 x.q.den]) v49 (L.length - n) (ptsOf (L.drop n)) ?_ ?_ hown2 (Hp49.out _ hb2) hl49.out (onep_all _) hm50.out hy50.out ?_ ?_; (simp [Act.eval] <;> fail); (simp [Act.eval] <;> fail); (first | omega | (simp <;> fail) | (simp; omega)); intro g3 cap3 w3 hown3 hgrow3; have hb3 : Below wq.heap.size wq w3 := Below.grown hb2 hgrow3 (by omega) (fun j e => by cases e; exact own_base4 hown2)))
        all_goals
          have hMl : n + 1 + (L.length - n) = (L.take n ++ [x] ++ L.drop n).length := by simp; omega
          have hMc : (ptsOf (L.take n) ++ [.int .i64 x.q.num, .int .i64 x.q.den]) ++ ptsOf (L.drop n) = ptsOf (L.take n ++ [x] ++ L.drop n) := by rw [ptsOf_append, ptsOf_snoc]; rfl
          have hOut := Lib.hid (OutP.of_own' hown3 hMl hMc (by simp))
          have hIns := Lib.hid (insP_put n hL hlt.out hdr.out)
          have hBe := Lib.hid (hB4.out.trans (hb3.mono hB4.out.size))
          have hlen2 : (L.take n ++ [x] ++ L.drop n).length ≤ L.length + 1 := by rw [← hMl]; omega
          clear hown3 hgrow3 hb3
          go_wp2
          go_ret
          exact ⟨.slice (some ⟨g3, 0, none⟩) (n + 1 + (L.length - n)) cap3, _, rfl, hOut.out, hIns.out, hlen2, by have := Hbx.out; subst this; exact hB0.trans (hBe.out.mono hB0.size)⟩
end Go.Proofs.YtaanhddgmiggfaaGreat.Ref
