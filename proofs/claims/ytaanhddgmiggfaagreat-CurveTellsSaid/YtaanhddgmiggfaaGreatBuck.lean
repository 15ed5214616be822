/- Buckets as pairs of rational numbers, their order, and the contracts of curve.order and curve.dominates. -/
import Derived.Test.YtaanhddgmiggfaaGreatBasic
import Derived.Test.YtaanhddgmiggfaaGreatCls
import Derived.Outline
import Derived.Deep.RegionHeld3
namespace Go.Proofs.YtaanhddgmiggfaaGreat
open Go.RowKit Go.Joins Num

structure Buck where
  b : Rat
  r : Rat
  hb : Fit b
  hr : Fit r
  pb : 0 ≤ b
  pr : 0 ≤ r
deriving DecidableEq
instance : Inhabited Buck := ⟨⟨0, 0, by constructor <;> decide, by constructor <;> decide, by decide, by decide⟩⟩
theorem Buck.ext' {x y : Buck} (h1 : x.b = y.b) (h2 : x.r = y.r) : x = y := by cases x; cases y; simp_all
def Buck.cells (x : Buck) : List Value := [.int .i64 x.b.num, .int .i64 x.b.den, .int .i64 x.r.num, .int .i64 x.r.den]
def ordI (c1 c2 : Int) : Int := if c1 = 0 then c2 else c1
def Buck.ord (x y : Buck) : Int := ordI (cmpQ x.b y.b) (cmpQ x.r y.r)
def Buck.domB (x y : Buck) : Bool := decide (x ≠ y) && (decide (cmpQ x.b y.b ≤ 0) && decide (cmpQ x.r y.r ≤ 0))

/-- cmp.Or of two. -/
theorem or_any (W : World) (b : Nat) (c1 c2 : Int) (cap : Nat) (h0 : W.cell? ⟨b, 0, none⟩ = some (.int .i64 c1)) (h1 : W.cell? ⟨b, 1, none⟩ = some (.int .i64 c2)) :
    Calls Tryz.prog 136 #[.slice (some ⟨b, 0, none⟩) 2 cap] W fun e w' => e = .returned (.int .i64 (ordI c1 c2)) ∧ W = w' := by
  by_cases h : c1 = 0
  · subst h
    rw [show ordI 0 c2 = c2 from rfl]
    by_cases h2 : c2 = 0
    · subst h2
      go_enter Tryz.func136, Tryz.ntmps136
      go_wp2
      refine wp_loop_rounds 3 ?_
      rw [rounds_succ]
      go_wp2
      rw [rounds_succ]
      go_wp2
      rw [rounds_succ]
      go_wp2
      go_ret
      exact ⟨rfl, rfl⟩
    · have h3 : (c2 == 0) = false := by simpa using h2
      have h4 : (c2 != 0) = true := by simpa using h2
      go_enter Tryz.func136, Tryz.ntmps136
      go_wp2
      refine wp_loop_rounds 2 ?_
      rw [rounds_succ]
      go_wp2
      rw [rounds_succ]
      go_wp2
      go_ret
      exact ⟨rfl, rfl⟩
  · have h3 : (c1 == 0) = false := by simpa using h
    have h4 : (c1 != 0) = true := by simpa using h
    rw [show ordI c1 c2 = c1 by unfold ordI; rw [if_neg h]]
    go_enter Tryz.func136, Tryz.ntmps136
    go_wp2
    refine wp_loop_rounds 1 ?_
    rw [rounds_succ]
    go_wp2
    go_ret
    exact ⟨rfl, rfl⟩

/-- The two buckets in their boxes; worlds that have grown from there. -/
structure Two (W0 : World) (b1 b2 : Nat) (x y : Buck) (W : World) : Prop where
  g : Lays W0 W
  l1 : b1 < W0.heap.size
  l2 : b2 < W0.heap.size
  x0 : W.cell? ⟨b1, 0, none⟩ = some (.int .i64 x.b.num)
  x1 : W.cell? ⟨b1, 1, none⟩ = some (.int .i64 x.b.den)
  x2 : W.cell? ⟨b1, 2, none⟩ = some (.int .i64 x.r.num)
  x3 : W.cell? ⟨b1, 3, none⟩ = some (.int .i64 x.r.den)
  y0 : W.cell? ⟨b2, 0, none⟩ = some (.int .i64 y.b.num)
  y1 : W.cell? ⟨b2, 1, none⟩ = some (.int .i64 y.b.den)
  y2 : W.cell? ⟨b2, 2, none⟩ = some (.int .i64 y.r.num)
  y3 : W.cell? ⟨b2, 3, none⟩ = some (.int .i64 y.r.den)
theorem Two.keep {W0 : World} {b1 b2 : Nat} {x y : Buck} {W W' : World} (h : Two W0 b1 b2 x y W) (k : Lays W W') : Two W0 b1 b2 x y W' := by
  have s := h.g.b.size
  have c : ∀ i, W'.cell? ⟨b1, i, none⟩ = W.cell? ⟨b1, i, none⟩ := fun i => k.b.cell (p := ⟨b1, i, none⟩) (Nat.lt_of_lt_of_le h.l1 s)
  have d : ∀ i, W'.cell? ⟨b2, i, none⟩ = W.cell? ⟨b2, i, none⟩ := fun i => k.b.cell (p := ⟨b2, i, none⟩) (Nat.lt_of_lt_of_le h.l2 s)
  exact ⟨h.g.trans k, h.l1, h.l2, (c 0).trans h.x0, (c 1).trans h.x1, (c 2).trans h.x2, (c 3).trans h.x3, (d 0).trans h.y0, (d 1).trans h.y1, (d 2).trans h.y2, (d 3).trans h.y3⟩

theorem Two.all {W0 : World} {b1 b2 : Nat} {x y : Buck} {w' : World} (h : Two W0 b1 b2 x y w') : w'.cell? ⟨b1, 0, none⟩ = some (.int .i64 x.b.num) ∧ w'.cell? ⟨b1, 1, none⟩ = some (.int .i64 x.b.den) ∧ w'.cell? ⟨b1, 2, none⟩ = some (.int .i64 x.r.num) ∧ w'.cell? ⟨b1, 3, none⟩ = some (.int .i64 x.r.den) ∧ w'.cell? ⟨b2, 0, none⟩ = some (.int .i64 y.b.num) ∧ w'.cell? ⟨b2, 1, none⟩ = some (.int .i64 y.b.den) ∧ w'.cell? ⟨b2, 2, none⟩ = some (.int .i64 y.r.num) ∧ w'.cell? ⟨b2, 3, none⟩ = some (.int .i64 y.r.den) ∧ Two W0 b1 b2 x y w' :=
  ⟨h.x0, h.x1, h.x2, h.x3, h.y0, h.y1, h.y2, h.y3, h⟩
set_option maxHeartbeats 2000000 in
theorem order_r (x y : Buck) (w : World) :
    Calls Tryz.prog 102 #[.agg x.cells.toArray, .agg y.cells.toArray] w fun e w' => e = .returned (.int .i64 (x.ord y)) ∧ Lays w w' := by
  have C1 : Hid (∀ W : World, _) := fun W => cmp_r x.hb y.hb W
  have C2 : Hid (∀ W : World, _) := fun W => cmp_r x.hr y.hr W
  have HO : Hid (x.ord y = ordI (cmpQ x.b y.b) (cmpQ x.r y.r)) := rfl
  generalize x.ord y = o at HO ⊢
  generalize cmpQ x.b y.b = c1 at C1 HO
  generalize cmpQ x.r y.r = c2 at C2 HO
  simp only [Buck.cells]
  go_enter Tryz.func102, Tryz.ntmps102
  go_wp2_with fail
  have T0 : Two ((w.alloc (.cells #[.int .i64 x.b.num, .int .i64 x.b.den, .int .i64 x.r.num, .int .i64 x.r.den] 80)).alloc (.cells #[.int .i64 y.b.num, .int .i64 y.b.den, .int .i64 y.r.num, .int .i64 y.r.den] 80)) w.heap.size (w.heap.size + 1) x y ((w.alloc (.cells #[.int .i64 x.b.num, .int .i64 x.b.den, .int .i64 x.r.num, .int .i64 x.r.den] 80)).alloc (.cells #[.int .i64 y.b.num, .int .i64 y.b.den, .int .i64 y.r.num, .int .i64 y.r.den] 80)) :=
    ⟨Lays.refl _, by simp; omega, by simp, by go_simp, by go_simp, by go_simp, by go_simp, by go_simp, by go_simp, by go_simp, by go_simp⟩
  have HL : Lays w ((w.alloc (.cells #[.int .i64 x.b.num, .int .i64 x.b.den, .int .i64 x.r.num, .int .i64 x.r.den] 80)).alloc (.cells #[.int .i64 y.b.num, .int .i64 y.b.den, .int .i64 y.r.num, .int .i64 y.r.den] 80)) := ((Lays.refl _).alloc _).alloc _
  generalize (w.alloc (.cells #[.int .i64 x.b.num, .int .i64 x.b.den, .int .i64 x.r.num, .int .i64 x.r.den] 80)).alloc (.cells #[.int .i64 y.b.num, .int .i64 y.b.den, .int .i64 y.r.num, .int .i64 y.r.den] 80) = W0 at T0 HL ⊢
  generalize w.heap.size + 1 = b2 at T0 ⊢
  generalize w.heap.size = b1 at T0 ⊢
  go_region_held3 (fun w' => w'.cell? ⟨b1, 0, none⟩ = some (.int .i64 x.b.num) ∧ w'.cell? ⟨b1, 1, none⟩ = some (.int .i64 x.b.den) ∧ w'.cell? ⟨b1, 2, none⟩ = some (.int .i64 x.r.num) ∧ w'.cell? ⟨b1, 3, none⟩ = some (.int .i64 x.r.den) ∧ w'.cell? ⟨b2, 0, none⟩ = some (.int .i64 y.b.num) ∧ w'.cell? ⟨b2, 1, none⟩ = some (.int .i64 y.b.den) ∧ w'.cell? ⟨b2, 2, none⟩ = some (.int .i64 y.r.num) ∧ w'.cell? ⟨b2, 3, none⟩ = some (.int .i64 y.r.den) ∧ Two W0 b1 b2 x y w')
    (first
      | exact T0.all
      | exact (T0.keep ((Lays.refl _).drew)).all
      | (go_split_ands
         exact (Two.keep (by assumption) (by assumption)).all)
      | (go_split_ands
         exact (Two.keep (by assumption) ((Lays.refl _).alloc _)).all)
      | (go_split_ands
         exact (Two.keep (by assumption) (Lays.refl _)).all))
    (first
      | (go_at_call 48; (with_reducible refine (C1.out _).mono ?_); rintro e w1 ⟨rfl, hb⟩)
      | (go_at_call 48; (with_reducible refine (C2.out _).mono ?_); rintro e w1 ⟨rfl, hb⟩)
      | (go_at_call 136; refine (or_any _ _ c1 c2 _ ?_ ?_).mono ?_; (go_simp); (go_simp); rintro e w1 ⟨rfl, rfl⟩; rw [← HO.out]))
  go_split_ands
  go_wp2
  go_ret
  exact ⟨rfl, HL.trans (Two.g (W0 := W0) (b1 := b1) (b2 := b2) (x := x) (y := y) (by assumption))⟩

/-- Two different buckets compared. -/
theorem neq_b {x y : Buck} (h : x ≠ y) (W : World) : Sem.run Tryz.prog (binOp .neq 80 (.agg #[.int .i64 x.b.num, .int .i64 x.b.den, .int .i64 x.r.num, .int .i64 x.r.den]) (.agg #[.int .i64 y.b.num, .int .i64 y.b.den, .int .i64 y.r.num, .int .i64 y.r.den])) W = .ok (.bool true) W := by
  have hn : ¬ (x.b.num = y.b.num ∧ (x.b.den : Int) = y.b.den ∧ x.r.num = y.r.num ∧ (x.r.den : Int) = y.r.den) := fun ⟨h1, h2, h3, h4⟩ => h (Buck.ext' (Rat.ext h1 (by omega)) (Rat.ext h3 (by omega)))
  generalize x.b.num = a1 at *
  generalize (x.b.den : Int) = a2 at *
  generalize x.r.num = a3 at *
  generalize (x.r.den : Int) = a4 at *
  generalize y.b.num = b1 at *
  generalize (y.b.den : Int) = b2 at *
  generalize y.r.num = b3 at *
  generalize (y.r.den : Int) = b4 at *
  go_simp
  repeat' split
  all_goals (first | rfl | omega | (simp; omega) | (simp_all))

set_option maxHeartbeats 2000000 in
theorem dominates_r (x y : Buck) (w : World) :
    Calls Tryz.prog 103 #[.agg x.cells.toArray, .agg y.cells.toArray] w fun e w' => e = .returned (.bool (x.domB y)) ∧ Lays w w' := by
  have C1 : Hid (∀ W : World, _) := fun W => cmp_r x.hb y.hb W
  have C2 : Hid (∀ W : World, _) := fun W => cmp_r x.hr y.hr W
  unfold Buck.domB
  by_cases hxy : x = y
  · subst hxy
    simp only [Buck.cells, ne_eq, not_true_eq_false, decide_false, Bool.false_and]
    go_enter Tryz.func103, Tryz.ntmps103
    go_wp2_with fail
    go_ret
    exact ⟨rfl, ((Lays.refl _).alloc _).alloc _⟩
  · have hne := fun W => neq_b hxy W
    simp only [Buck.cells, ne_eq, hxy, not_false_eq_true, decide_true, Bool.true_and]
    generalize cmpQ x.b y.b = c1 at C1 ⊢
    generalize cmpQ x.r y.r = c2 at C2 ⊢
    have HL := ((Lays.refl w).alloc (.cells #[.int .i64 x.b.num, .int .i64 x.b.den, .int .i64 x.r.num, .int .i64 x.r.den] 80)).alloc (.cells #[.int .i64 y.b.num, .int .i64 y.b.den, .int .i64 y.r.num, .int .i64 y.r.den] 80)
    by_cases h1 : c1 ≤ 0
    · simp only [h1, decide_true, Bool.true_and]
      have e1 : decide (c1 ≤ 0) = true := by simpa using h1
      go_enter Tryz.func103, Tryz.ntmps103
      go_wp2_with fail
      refine (C1.out _).mono ?_; rintro e w1 ⟨rfl, hb1⟩
      obtain ⟨hc, hf⟩ := bcell hb1.b
      have hz := hb1.b.size
      simp only [World.size_alloc] at hc hf hz
      go_wp2_with fail
      refine (C2.out _).mono ?_; rintro e w2 ⟨rfl, hb2⟩
      go_wp2
      go_ret
      exact ⟨rfl, (HL.trans hb1).trans hb2⟩
    · have e1 : decide (c1 ≤ 0) = false := by simpa using h1
      rw [e1, Bool.false_and]
      have h1' : 0 < c1 := by omega
      go_enter Tryz.func103, Tryz.ntmps103
      go_wp2_with fail
      refine (C1.out _).mono ?_; rintro e w1 ⟨rfl, hb1⟩
      go_wp2
      go_ret
      exact ⟨rfl, HL.trans hb1⟩
end Go.Proofs.YtaanhddgmiggfaaGreat
