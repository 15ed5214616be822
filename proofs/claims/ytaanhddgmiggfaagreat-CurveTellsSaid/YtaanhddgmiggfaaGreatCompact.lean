/- slices.Compact at points in a slice of the call's own. -/
import Derived.Test.YtaanhddgmiggfaaGreatPts
import Derived.IntWalk
namespace Go.Proofs.YtaanhddgmiggfaaGreat
open Go.RowKit Go.Joins Go.Shelf Go.Sort Num

theorem eq_p {x y : Pt} (W : World) : Sem.run Tryz.prog (binOp .eql 25 (.agg #[.int .i64 x.q.num, .int .i64 x.q.den]) (.agg #[.int .i64 y.q.num, .int .i64 y.q.den])) W = .ok (.bool (decide (x = y))) W := by
  have hn : (x = y) ↔ (x.q.num = y.q.num ∧ (x.q.den : Int) = y.q.den) := ⟨fun h => by rw [h]; exact ⟨rfl, rfl⟩, fun ⟨h1, h2⟩ => Pt.ext' (Rat.ext h1 (by omega))⟩
  simp only [hn]
  generalize x.q.num = a1
  generalize (x.q.den : Int) = a2
  generalize y.q.num = b1
  generalize (y.q.den : Int) = b2
  go_simp
  repeat' split
  all_goals (first | rfl | omega | (simp; omega) | (simp_all))
theorem neq_p {x y : Pt} (W : World) : Sem.run Tryz.prog (binOp .neq 25 (.agg #[.int .i64 x.q.num, .int .i64 x.q.den]) (.agg #[.int .i64 y.q.num, .int .i64 y.q.den])) W = .ok (.bool (!decide (x = y))) W := by
  have hn : (x = y) ↔ (x.q.num = y.q.num ∧ (x.q.den : Int) = y.q.den) := ⟨fun h => by rw [h]; exact ⟨rfl, rfl⟩, fun ⟨h1, h2⟩ => Pt.ext' (Rat.ext h1 (by omega))⟩
  simp only [hn]
  generalize x.q.num = a1
  generalize (x.q.den : Int) = a2
  generalize y.q.num = b1
  generalize (y.q.den : Int) = b2
  go_simp
  repeat' split
  all_goals (first | rfl | omega | (simp; omega) | (simp_all))

/-- clear at elements of two cells. -/
theorem run_clear2 (w : World) (b o n c : Nat) (hn : 0 < n) (hc : ∀ j, j < n * 2 → (w.cell? ⟨b, o + j, none⟩).isSome = true) (hf : ∀ j, j < n * 2 → w.frozen? ⟨b, o + j, none⟩ = false) (ty : TypeId) :
    (Builtin.clear_ #[44] ty #[.slice (some ⟨b, o, none⟩) n c]).run Tryz.prog w = .ok (.tuple #[]) (w.setCells b o (Builtin.zeroCells #[.int .i64 0, .int .i64 0] n).toList) := by
  have hv : ∀ w, (zeroValue 25).run Tryz.prog w = .ok (.agg #[.int .i64 0, .int .i64 0]) w := fun w => by kernel_rfl
  have hlen : (Builtin.zeroCells #[.int .i64 0, .int .i64 0] n).toList.length = n * 2 := by simp [Builtin.zeroCells]
  have hst := run_storeCells_cells (P := Tryz.prog) b o (Builtin.zeroCells #[.int .i64 0, .int .i64 0] n).toList 0 w (by rw [hlen]; simpa using hc) (by rw [hlen]; simpa using hf) (by
    intro v hv'
    simp only [Builtin.zeroCells, Array.toList_map, List.mem_map] at hv'
    obtain ⟨i, -, rfl⟩ := hv'
    have h2 : i % 2 = 0 ∨ i % 2 = 1 := by omega
    rcases h2 with h | h <;> simp [h] <;> rfl)
  simp only [Nat.add_zero] at hst
  obtain ⟨m, rfl⟩ : ∃ m, n = m + 1 := ⟨n - 1, by omega⟩
  have hzc : (Value.agg #[.int .i64 0, .int .i64 0]).cells = #[.int .i64 0, .int .i64 0] := rfl
  simp [Builtin.clear_, run_underlying Tryz.underlying44, hv, hzc, hst]

theorem ptsOf_set (D : List Pt) (p : Nat) (x : Pt) (hp : p < D.length) : ((ptsOf D).set (p * 2) (.int .i64 x.q.num)).set (p * 2 + 1) (.int .i64 x.q.den) = ptsOf (D.set p x) := by
  apply List.ext_getElem?
  intro t
  have hlen := ptsOf_length D
  rw [List.getElem?_set, List.getElem?_set]
  simp only [List.length_set, hlen]
  by_cases ht : t < D.length * 2
  · have hj : t / 2 < D.length := by omega
    have h1 := flat_pts (D.set p x) (t / 2) (t % 2) ((D.set p x)[t / 2]'(by simpa using hj)) (List.getElem?_eq_getElem (by simpa using hj)) (Nat.mod_lt _ (by decide))
    have h0 := flat_pts D (t / 2) (t % 2) D[t / 2] (List.getElem?_eq_getElem hj) (Nat.mod_lt _ (by decide))
    rw [show t / 2 * 2 + t % 2 = t by omega] at h1 h0
    rw [h1, h0]
    rw [List.getElem_set]
    by_cases hpt : p = t / 2
    · rw [if_pos hpt]
      have : t % 2 = 0 ∨ t % 2 = 1 := by omega
      rcases this with h | h
      · rw [if_neg (by omega), if_pos (by omega), if_pos (by omega), h]; rfl
      · rw [if_pos (by omega), if_pos (by omega), h]; rfl
    · rw [if_neg hpt, if_neg (by omega), if_neg (by omega)]
  · rw [if_neg (by omega), if_neg (by omega), List.getElem?_eq_none (by rw [ptsOf_length]; omega), List.getElem?_eq_none (by rw [ptsOf_length, List.length_set]; omega)]

theorem own_set {w : World} {base g cap : Nat} {D : List Pt} (h : w.ownsRow base 25 2 (.slice (some ⟨g, 0, none⟩) D.length cap) D.length (ptsOf D)) (p : Nat) (x : Pt) (hp : p < D.length) :
    ((w.setCell ⟨g, p * 2, none⟩ (.int .i64 x.q.num)).setCell ⟨g, p * 2 + 1, none⟩ (.int .i64 x.q.den)).ownsRow base 25 2 (.slice (some ⟨g, 0, none⟩) (D.set p x).length cap) (D.set p x).length (ptsOf (D.set p x)) := by
  have h2 := ((h.stored (p * 2) (.int .i64 x.q.num)).1.stored (p * 2 + 1) (.int .i64 x.q.den)).1
  rw [ptsOf_set D p x hp] at h2
  rwa [List.length_set]

theorem compL_take {c : List Pt} {m : Nat} {x y : Pt} (hx : c[m + 1]? = some x) (hy : c[m]? = some y) : compL (c.take (m + 1 + 1)) = if x = y then compL (c.take (m + 1)) else compL (c.take (m + 1)) ++ [x] := by
  rw [take_succ' hx, compL_snoc]
  unfold stepP
  have hl : (compL (c.take (m + 1))).getLast? = some y := by
    rw [compL_last, take_succ' hy]; simp
  rw [hl]
  by_cases h : x = y
  · subst h; simp
  · rw [if_neg h, if_neg (fun e => h (Option.some.inj e).symm)]

theorem cut_from (g p n cap : Nat) (hp : p < n) (hcap : n ≤ cap) (w : World) : (Instr.slice 44 (.slice (some ⟨g, 0, none⟩) n cap) (some (.int .i64 ↑p)) none none).run Tryz.prog w = .ok (.slice (some ⟨g, p * 2, none⟩) (n - p) (cap - p)) w := by
  rw [run_slice_l w 44 _ n cap (by kernel_rfl) .i64 ↑p (by omega) (by omega)]
  have e2 : (sizeOf (Tryz.prog.elem 44)).run Tryz.prog w = .ok 2 w := by kernel_rfl
  rw [Int.toNat_natCast, e2]
  simp only [Result.andThen, sliced]
  simp [show ¬ cap = p by omega, Addr.add]
  intro h; omega
theorem cut_to (g p n cap : Nat) (hp : p ≤ cap) (hcap : 0 < cap) (w : World) : (Instr.slice 44 (.slice (some ⟨g, 0, none⟩) n cap) none (some (.int .i64 ↑p)) none).run Tryz.prog w = .ok (.slice (some ⟨g, 0, none⟩) p cap) w := by
  rw [run_slice_h w 44 _ n cap (by kernel_rfl) .i64 ↑p (by omega) (by omega)]
  have e2 : (sizeOf (Tryz.prog.elem 44)).run Tryz.prog w = .ok 2 w := by kernel_rfl
  rw [Int.toNat_natCast, e2]
  simp only [Result.andThen, sliced]
  simp [show ¬ cap = 0 by omega, Addr.add]

set_option maxRecDepth 100000 in
set_option maxHeartbeats 4000000 in
theorem compact_own (base g cap : Nat) (c : List Pt) (hlen : c.length ≤ 1048576) (w : World) (ho : w.ownsRow base 25 2 (.slice (some ⟨g, 0, none⟩) c.length cap) c.length (ptsOf c)) :
    Calls Tryz.prog 73 #[.slice (some ⟨g, 0, none⟩) c.length cap] w fun e w' => e = .returned (.slice (some ⟨g, 0, none⟩) (compL c).length cap) ∧ w.grownBy w' (some g) ∧ Row2 w' g 0 (compL c) ∧ g < w'.heap.size := by
  obtain ⟨-, hgl⟩ := own_lt ho
  have hcap : c.length ≤ cap := by
    rcases ho.2 with ⟨e, _⟩ | ⟨g', cap', cur, e, _, _, hnc, _⟩
    · cases e
    · simp only [Value.slice.injEq, Option.some.injEq, Addr.mk.injEq, and_true, true_and] at e
      obtain ⟨rfl, rfl⟩ := e
      exact hnc
  by_cases h2 : c.length < 2
  · have hc : compL c = c := by
      match c, h2 with
      | [], _ => rfl
      | [x], _ => rfl
      | _ :: _ :: _, h => simp at h; omega
    rw [hc]
    have hr := Lib.hid (own_pts ho)
    clear ho
    go_enter Tryz.func73, Tryz.ntmps73
    go_wp2
    go_ret
    exact ⟨rfl, gb_refl _ _, hr.out, hgl⟩
  · go_enter Tryz.func73, Tryz.ntmps73
    go_wp2_with fail
    go_loopw [3] (fun i wr => ∃ m : Nat, m + 1 ≤ c.length ∧ i = .int .i64 (↑m + 1) ∧ compL (c.take (m + 1)) = c.take (m + 1) ∧ wr.ownsRow base 25 2 (.slice (some ⟨g, 0, none⟩) c.length cap) c.length (ptsOf c) ∧ w.grownBy wr (some g))
      (fun i _ => c.length - (intOf i).toNat)
    case atStart => exact ⟨0, by omega, rfl, by
      match c, h2 with
      | x :: l, _ => rfl, ho, gb_refl _ _⟩
    case round =>
      obtain ⟨m, hm, rfl, hcm, hoR, hBR⟩ := hrel
      have hR := own_pts hoR
      have hgr : g < wr.heap.size := (own_lt hoR).2
      by_cases hlt : m + 1 < c.length
      · have hx : c[m + 1]? = some c[m + 1] := List.getElem?_eq_getElem hlt
        have hy : c[m]? = some c[m] := List.getElem?_eq_getElem (by omega)
        obtain ⟨x, hxe⟩ : ∃ x, c[m + 1] = x := ⟨_, rfl⟩
        obtain ⟨y, hye⟩ : ∃ y, c[m] = y := ⟨_, rfl⟩
        rw [hxe] at hx
        rw [hye] at hy
        obtain ⟨x0, x1⟩ := hR _ _ hx
        obtain ⟨y0, y1⟩ := hR _ _ hy
        simp only [Nat.zero_add] at x0 x1 y0 y1
        have hct := compL_take hx hy
        have hts := take_succ' hx
        have Hct := Lib.hid hct
        have Hcm := Lib.hid hcm
        have Hts := Lib.hid hts
        have Hx := Lib.hid hx
        have Hy := Lib.hid hy
        have HR := Lib.hid hR
        have heq := fun W => eq_p (x := x) (y := y) W
        have i1 : IntKind.i64.wrap ((m : Int) + 1 - 1) = m := by rw [IntWalk.i64_in _ (by omega)]; omega
        clear hct hcm hts hx hy hxe hye hR
        by_cases hxy : x = y
        · subst hxy
          have hcut := cut_from g (m + 1) c.length cap hlt hcap
          simp only [Int.natCast_add, Int.natCast_one] at hcut
          simp only [decide_true] at heq
          rw [if_pos rfl] at Hct
          obtain ⟨N2, hN2⟩ : ∃ N2, c.length - (m + 1) = N2 := ⟨_, rfl⟩
          rw [hN2] at hcut
          go_wp2_with fail
          go_quiet (fail)
          rename_i nq
          replace hoR : (wr.drewN nq).ownsRow base 25 2 (.slice (some ⟨g, 0, none⟩) c.length cap) c.length (ptsOf c) := hoR
          replace hBR := gb_drewN hBR nq
          clear x0 x1 y0 y1 heq i1 HR Hx Hy
          generalize wr.drewN nq = wq at hoR hBR ⊢
          go_wp2
          clear hcut
          go_loopw [3, 5] (fun i j wr => ∃ (q p : Nat) (D : List Pt), m + 1 + q + 1 ≤ c.length ∧ 1 ≤ p ∧ p ≤ m + 1 + q ∧ i = .int .i64 ↑p ∧ j = .int .i64 (↑q + 1) ∧ compL (c.take (m + 1 + q + 1)) = D.take p ∧ D.length = c.length ∧ (∀ t, m + 1 + q ≤ t → D[t]? = c[t]?) ∧ wr.ownsRow base 25 2 (.slice (some ⟨g, 0, none⟩) D.length cap) D.length (ptsOf D) ∧ w.grownBy wr (some g))
            (fun _ j _ => c.length - (intOf j).toNat)
          case atStart => exact ⟨0, m + 1, c, by omega, by omega, by omega, by go_num, by go_num, by rw [Nat.add_zero, Hct.out, Hcm.out], rfl, fun _ _ => rfl, hoR, hBR⟩
          case round =>
            obtain ⟨q, p, D, hq, hp1, hp2, rfl, rfl, hcD, hDl, hDt, hoD, hBD⟩ := hrel
            have hRD := own_pts hoD
            have hgr : g < wr.heap.size := (own_lt hoD).2
            have HcD := Lib.hid hcD
            have HDl := Lib.hid hDl
            have HDt := Lib.hid hDt
            have hpl : p < D.length := by omega
            clear hcD hDt
            by_cases hlt2 : q + 1 < N2
            · have hx : c[m + 1 + q + 1]? = some c[m + 1 + q + 1] := List.getElem?_eq_getElem (by omega)
              have hy : c[m + 1 + q]? = some c[m + 1 + q] := List.getElem?_eq_getElem (by omega)
              obtain ⟨u, hue⟩ : ∃ u, c[m + 1 + q + 1] = u := ⟨_, rfl⟩
              obtain ⟨v, hve⟩ : ∃ v, c[m + 1 + q] = v := ⟨_, rfl⟩
              rw [hue] at hx
              rw [hve] at hy
              have hct := compL_take hx hy
              obtain ⟨x0, x1⟩ := hRD _ _ ((HDt.out _ (by omega)).trans hx)
              obtain ⟨y0, y1⟩ := hRD _ _ ((HDt.out _ (by omega)).trans hy)
              rw [show 0 + (m + 1 + q + 1) * 2 = (m + 1) * 2 + (q + 1) * 2 by omega] at x0 x1
              rw [show 0 + (m + 1 + q) * 2 = (m + 1) * 2 + q * 2 by omega] at y0 y1
              have hDp : D[p]? = some D[p] := List.getElem?_eq_getElem hpl
              obtain ⟨d0, d1⟩ := hRD _ _ hDp
              simp only [Nat.zero_add] at d0 d1
              have f0 := hoD.frozenAt (p * 2)
              have f1 := hoD.frozenAt (p * 2 + 1)
              have hneq := fun W => neq_p (x := u) (y := v) W
              have i1 : IntKind.i64.wrap ((q : Int) + 1 - 1) = q := by rw [IntWalk.i64_in _ (by omega)]; omega
              have Hct2 := Lib.hid hct
              have Hx := Lib.hid hx
              clear hct hx hy hue hve hDp hRD
              generalize D[p] = dp at d0 d1
              by_cases huv : u = v
              · subst huv
                simp only [decide_true, Bool.not_true] at hneq
                rw [if_pos rfl] at Hct2
                go_wp2_with fail
                go_quiet (fail)
                rename_i nq
                replace hoD : (wr.drewN nq).ownsRow base 25 2 (.slice (some ⟨g, 0, none⟩) D.length cap) D.length (ptsOf D) := hoD
                replace hBD := gb_drewN hBD nq
                clear x0 x1 y0 y1 hneq i1 d0 d1 f0 f1
                generalize wr.drewN nq = wz at hoD hBD ⊢
                go_wp2
                go_roundw
                case rel => exact ⟨q + 1, p, D, by omega, hp1, by omega, rfl, by go_num, by rw [show m + 1 + (q + 1) + 1 = m + 1 + q + 1 + 1 by omega, Hct2.out, HcD.out], HDl.out, fun t ht => HDt.out t (by omega), hoD, hBD⟩
                case measure => simp [intOf]; omega
              · have hd : decide (u = v) = false := decide_eq_false huv
                rw [hd] at hneq
                simp only [Bool.not_false] at hneq
                rw [if_neg huv] at Hct2
                go_wp2_with fail
                go_quiet (fail)
                rename_i nq
                replace hoD : (wr.drewN nq).ownsRow base 25 2 (.slice (some ⟨g, 0, none⟩) D.length cap) D.length (ptsOf D) := hoD
                replace hBD := gb_drewN hBD nq
                replace x0 : (wr.drewN nq).cell? ⟨g, (m + 1) * 2 + (q + 1) * 2, none⟩ = _ := x0
                replace x1 : (wr.drewN nq).cell? ⟨g, (m + 1) * 2 + (q + 1) * 2 + 1, none⟩ = _ := x1
                replace d0 : (wr.drewN nq).cell? ⟨g, p * 2, none⟩ = _ := d0
                replace d1 : (wr.drewN nq).cell? ⟨g, p * 2 + 1, none⟩ = _ := d1
                replace f0 : (wr.drewN nq).frozen? ⟨g, p * 2, none⟩ = _ := f0
                replace f1 : (wr.drewN nq).frozen? ⟨g, p * 2 + 1, none⟩ = _ := f1
                have hset := Lib.hid (own_set hoD p u hpl)
                have hBs := Lib.hid (gb_setCell (gb_setCell hBD (p * 2) (.int .i64 u.q.num)) (p * 2 + 1) (.int .i64 u.q.den))
                have htk : Hid ((D.set p u).take (p + 1) = D.take p ++ [u]) := by
                  unfold Hid
                  rw [List.take_add_one, List.take_set_of_le (Nat.le_refl _), List.getElem?_set_self hpl]; rfl
                have hne : ∀ t, m + 1 + (q + 1) ≤ t → (D.set p u)[t]? = c[t]? := fun t ht => by
                  rw [List.getElem?_set_ne (by omega)]; exact HDt.out t (by omega)
                have Hne := Lib.hid hne
                clear y0 y1 hneq i1 hoD hBD hne
                generalize wr.drewN nq = wz at x0 x1 d0 d1 f0 f1 hset hBs ⊢
                go_wp2
                go_roundw
                case rel => exact ⟨q + 1, p + 1, D.set p u, by omega, by omega, by omega, by go_num, by go_num, by rw [show m + 1 + (q + 1) + 1 = m + 1 + q + 1 + 1 by omega, Hct2.out, HcD.out, htk.out], by rw [List.length_set]; exact HDl.out, Hne.out, hset.out, hBs.out⟩
                case measure => simp [intOf]; omega
            · have hqe : m + 1 + q + 1 = c.length := by omega
              have hc1 := cut_from g p c.length cap (by omega) hcap
              have hc2 := cut_to g p c.length cap (by omega) (by omega)
              have hrow2 : ∀ j, j < D.length * 2 → wr.cell? ⟨g, j, none⟩ = (ptsOf D)[j]? := fun j hj => hoD.cellAt j hj
              have hclr := run_clear2 wr g (p * 2) (c.length - p) (cap - p) (by omega) (fun j hj => by rw [hrow2 _ (by omega), List.getElem?_eq_getElem (by rw [ptsOf_length]; omega)]; rfl) (fun j hj => hoD.frozenAt _)
              have hlenZ : (Builtin.zeroCells #[.int .i64 0, .int .i64 0] (c.length - p)).toList.length = (c.length - p) * 2 := by simp [Builtin.zeroCells]
              generalize (Builtin.zeroCells #[.int .i64 0, .int .i64 0] (c.length - p)).toList = Z at hclr hlenZ
              have hcl : compL c = D.take p := by rw [← HcD.out, hqe, List.take_length]
              have hfin : Row2 (wr.setCells g (p * 2) Z) g 0 (compL c) := fun j u hu => by
                rw [hcl, List.getElem?_take] at hu
                by_cases hj : j < p
                · rw [if_pos hj] at hu
                  obtain ⟨k0, k1⟩ := hRD j u hu
                  rw [World.cell?_setCells_out _ _ _ _ _ (fun _ _ => .inl (by simp; omega)), World.cell?_setCells_out _ _ _ _ _ (fun _ _ => .inl (by simp; omega))]
                  exact ⟨k0, k1⟩
                · rw [if_neg hj] at hu; cases hu
              have hfl : (compL c).length = p := by rw [hcl, List.length_take]; omega
              have hBf := gb_setCells Z (p * 2) wr hBD
              have hsz : (wr.setCells g (p * 2) Z).heap.size = wr.heap.size := by
                have : ∀ (l : List Value) (o : Nat) (w : World), (w.setCells g o l).heap.size = w.heap.size := fun l => by
                  induction l with
                  | nil => intro o w; rfl
                  | cons v r ih => intro o w; rw [World.setCells, ih]; simp [World.setCell]
                exact this _ _ _
              have Hfin := Lib.hid hfin
              have Hfl := Lib.hid hfl
              have HBf := Lib.hid hBf
              have Hsz := Lib.hid hsz
              clear hfin hfl hBf hcl hRD hrow2 hsz hqe
              go_wp2
              go_ret
              exact ⟨by rw [Hfl.out]; rfl, HBf.out, Hfin.out, by rw [Hsz.out]; exact hgr⟩
        · have hd : decide (x = y) = false := decide_eq_false hxy
          rw [hd] at heq
          rw [if_neg hxy] at Hct
          go_wp2_with fail
          go_quiet (fail)
          rename_i nq
          replace hoR : (wr.drewN nq).ownsRow base 25 2 (.slice (some ⟨g, 0, none⟩) c.length cap) c.length (ptsOf c) := hoR
          replace hBR := gb_drewN hBR nq
          clear x0 x1 y0 y1 heq i1 HR
          generalize wr.drewN nq = wq at hoR hBR ⊢
          go_wp2
          go_roundw
          case rel => exact ⟨m + 1, by omega, by go_num, by rw [Hct.out, Hcm.out, ← Hts.out], hoR, hBR⟩
          case measure => simp [intOf]; omega
      · have hme : m + 1 = c.length := by omega
        have hcc : compL c = c := by rw [hme, List.take_length] at hcm; exact hcm
        have HR := Lib.hid hR
        have Hcc := Lib.hid hcc
        clear hcm hcc hR hme
        go_wp2
        go_ret
        exact ⟨by rw [Hcc.out]; rfl, hBR, by rw [Hcc.out]; exact HR.out, hgr⟩
end Go.Proofs.YtaanhddgmiggfaaGreat
