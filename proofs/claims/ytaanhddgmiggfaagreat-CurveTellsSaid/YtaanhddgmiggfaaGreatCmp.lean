/- The contract of rat.Cmp, which also tells that draws only go on; how worlds grow. -/
import Derived.Test.YtaanhddgmiggfaaGreatOps
import Derived.Sort.Grow
namespace Go.Proofs.YtaanhddgmiggfaaGreat
open Go.RowKit

/-- The world has only grown: new blocks, draws. -/
structure Lays (W W' : World) : Prop where
  b : Below W.heap.size W W'
  d : W.drawn ≤ W'.drawn
theorem Lays.refl (W : World) : Lays W W := ⟨Below.refl _ _, Nat.le_refl _⟩
theorem Lays.trans {A B C : World} (h : Lays A B) (k : Lays B C) : Lays A C := ⟨h.b.trans (k.b.mono h.b.size), Nat.le_trans h.d k.d⟩
theorem Lays.alloc {A B : World} (h : Lays A B) (o : Obj) : Lays A (B.alloc o) := ⟨h.b.alloc h.b.size o, h.d⟩
theorem Lays.drewN {A B : World} (h : Lays A B) (k : Nat) : Lays A (B.drewN k) := ⟨below_drewN h.b k, Nat.le_trans h.d (Nat.le_add_right _ _)⟩
theorem Lays.drew {A B : World} (h : Lays A B) : Lays A B.drew := ⟨h.b.drew, Nat.le_trans h.d (Nat.le_succ _)⟩
theorem Lays.eq {W W' : World} (h : Lays W W') : ∃ q os, W' = Sort.grow (W.drewN q) os := by
  obtain ⟨⟨ho, ht, hp, hs, hb⟩, hd⟩ := h
  refine ⟨W'.drawn - W.drawn, W'.heap.extract W.heap.size W'.heap.size, ?_⟩
  obtain ⟨hp', tp', dr', os', out'⟩ := W'
  obtain ⟨hp0, tp0, dr0, os0, out0⟩ := W
  simp only at ho ht hp hs hb hd
  subst ho ht hp
  simp only [Sort.grow, World.drewN, World.mk.injEq, and_true, true_and]
  refine ⟨?_, by omega⟩
  apply Array.ext_getElem?
  intro i
  rw [Array.getElem?_append]
  by_cases hi : i < hp0.size
  · rw [if_pos hi]; exact hb i hi
  · rw [if_neg hi, Array.getElem?_extract]
    by_cases hi2 : i < hp'.size
    · rw [if_pos (by omega)]; congr 1; omega
    · rw [if_neg (by omega), Array.getElem?_eq_none (by omega)]

def sgnI (a b : Int) : Int := if a < b then -1 else if b < a then 1 else 0

set_option maxHeartbeats 400000 in
theorem compare_any (a b : Int) (w : World) :
    Calls Tryz.prog 98 #[.int .i64 a, .int .i64 b] w fun e w' => e = .returned (.int .i64 (sgnI a b)) ∧ w = w' := by
  rcases Int.lt_trichotomy a b with h | h | h
  · rw [show sgnI a b = -1 by simp [sgnI, h]]
    go_enter Tryz.func98, Tryz.ntmps98
    go_wp2
    go_ret
    exact ⟨rfl, rfl⟩
  · subst h
    rw [show sgnI a a = 0 by simp [sgnI]]
    go_enter Tryz.func98, Tryz.ntmps98
    go_wp2
    go_ret
    exact ⟨rfl, rfl⟩
  · have h' : ¬ a < b := by omega
    rw [show sgnI a b = 1 by simp [sgnI, h, h']]
    go_enter Tryz.func98, Tryz.ntmps98
    go_wp2
    go_ret
    exact ⟨rfl, rfl⟩

set_option maxHeartbeats 400000 in
theorem valid_lays (n d : Int) (w : World) (n0 : -9223372036854775808 ≤ n) (n1 : n ≤ 9223372036854775807) (d0 : -9223372036854775808 ≤ d) (d1 : d ≤ 9223372036854775807) :
    Calls Tryz.prog 87 #[.agg #[.int .i64 n, .int .i64 d]] w fun e w' => e = .returned (.bool (vldB n d)) ∧ Lays w w' := by
  by_cases h1 : d < 1
  · rw [vld_no (by omega)]
    go_enter Tryz.func87, Tryz.ntmps87
    go_wp2
    go_ret
    exact ⟨rfl, (Lays.refl _).alloc _⟩
  by_cases h2 : d > 1073741824
  · rw [vld_no (by omega)]
    go_enter Tryz.func87, Tryz.ntmps87
    go_wp2
    go_ret
    exact ⟨rfl, (Lays.refl _).alloc _⟩
  by_cases h3 : n < -1073741824
  · rw [vld_no (by omega)]
    go_enter Tryz.func87, Tryz.ntmps87
    go_wp2
    go_ret
    exact ⟨rfl, (Lays.refl _).alloc _⟩
  by_cases h4 : n > 1073741824
  · rw [vld_no (by omega)]
    go_enter Tryz.func87, Tryz.ntmps87
    go_wp2
    go_ret
    exact ⟨rfl, (Lays.refl _).alloc _⟩
  rw [vld_in (by omega) (by omega) (by omega) (by omega)]
  go_enter Tryz.func87, Tryz.ntmps87
  go_wp2_with fail
  all_goals
    refine (gcdI _ _ _ (by omega) (by omega) (by omega) (by omega)).mono ?_
    rintro e w1 ⟨rfl, j, rfl⟩
    go_wp2
    go_ret
    refine ⟨?_, ((Lays.refl _).alloc _).drewN _⟩
    exact ret_bool (by rw [Bool.eq_iff_iff]; simp; omega)

/-- What Cmp returns. -/
def cmpN (a b c d : Int) : Int := if vldB a b && vldB c d then sgnI (a * d) (c * b) else 0

set_option maxHeartbeats 1000000 in
theorem cmp_lays (a b c d : Int) (w : World) (a0 : -9223372036854775808 ≤ a) (a1 : a ≤ 9223372036854775807) (b0 : -9223372036854775808 ≤ b) (b1 : b ≤ 9223372036854775807) (c0 : -9223372036854775808 ≤ c) (c1 : c ≤ 9223372036854775807) (d0 : -9223372036854775808 ≤ d) (d1 : d ≤ 9223372036854775807) :
    Calls Tryz.prog 48 #[.agg #[.int .i64 a, .int .i64 b], .agg #[.int .i64 c, .int .i64 d]] w fun e w' => e = .returned (.int .i64 (cmpN a b c d)) ∧ Lays w w' := by
  unfold cmpN
  have HW0 : Lays w ((w.alloc (.cells #[.int .i64 a, .int .i64 b] 25)).alloc (.cells #[.int .i64 c, .int .i64 d] 25)) := ((Lays.refl _).alloc _).alloc _
  cases hx : vldB a b
  · have Hx := Lib.hid hx
    clear hx
    simp only [Bool.false_and, Bool.false_eq_true, if_false]
    go_enter Tryz.func48, Tryz.ntmps48
    go_wp2_with fail
    refine (valid_lays a b _ a0 a1 b0 b1).mono ?_; rintro e w1 ⟨rfl, hb1⟩; rw [Hx.out]
    go_wp2
    go_ret
    exact ⟨rfl, HW0.trans hb1⟩
  obtain ⟨b2, b3, a2, a3, -⟩ := vld_bd hx
  have Hx := Lib.hid hx
  clear hx
  cases hy : vldB c d
  · have Hy := Lib.hid hy
    clear hy
    simp only [Bool.and_false, Bool.false_eq_true, if_false]
    go_enter Tryz.func48, Tryz.ntmps48
    go_wp2_with fail
    refine (valid_lays a b _ a0 a1 b0 b1).mono ?_; rintro e w1 ⟨rfl, hb1⟩; rw [Hx.out]
    obtain ⟨hc, hf⟩ := bcell hb1.b
    simp only [World.size_alloc] at hc hf
    go_wp2_with fail
    refine (valid_lays c d _ c0 c1 d0 d1).mono ?_; rintro e w2 ⟨rfl, hb2⟩; rw [Hy.out]
    go_wp2
    go_ret
    exact ⟨rfl, (HW0.trans hb1).trans hb2⟩
  obtain ⟨d2, d3, c2, c3, -⟩ := vld_bd hy
  have Hy := Lib.hid hy
  clear hy
  have h1 := mulb a2 a3 (show -1073741824 ≤ d by omega) d3
  have h2 := mulb c2 c3 (show -1073741824 ≤ b by omega) b3
  simp only [Bool.and_self, if_true]
  obtain ⟨g, Hg⟩ : ∃ g, Hid (g = sgnI (a * d) (c * b)) := ⟨_, rfl⟩
  rw [← Hg.out]
  go_enter Tryz.func48, Tryz.ntmps48
  go_wp2_with fail
  refine (valid_lays a b _ a0 a1 b0 b1).mono ?_; rintro e w1 ⟨rfl, hb1⟩; rw [Hx.out]
  obtain ⟨hc, hf⟩ := bcell hb1.b
  simp only [World.size_alloc] at hc hf
  go_wp2_with fail
  refine (valid_lays c d _ c0 c1 d0 d1).mono ?_; rintro e w2 ⟨rfl, hb2⟩; rw [Hy.out]
  have hb3 := hb1.trans hb2
  clear hc hf hb1
  obtain ⟨hc, hf⟩ := bcell hb3.b
  simp only [World.size_alloc] at hc hf
  go_wp2_with fail
  refine (compare_any _ _ _).mono ?_; rintro e w3 ⟨rfl, rfl⟩; rw [← Hg.out]
  go_wp2
  go_ret
  exact ⟨rfl, HW0.trans hb3⟩
theorem cmp_any (a b c d : Int) (w : World) (a0 : -9223372036854775808 ≤ a) (a1 : a ≤ 9223372036854775807) (b0 : -9223372036854775808 ≤ b) (b1 : b ≤ 9223372036854775807) (c0 : -9223372036854775808 ≤ c) (c1 : c ≤ 9223372036854775807) (d0 : -9223372036854775808 ≤ d) (d1 : d ≤ 9223372036854775807) :
    Calls Tryz.prog 48 #[.agg #[.int .i64 a, .int .i64 b], .agg #[.int .i64 c, .int .i64 d]] w fun e w' => e = .returned (.int .i64 (cmpN a b c d)) ∧ Below w.heap.size w w' :=
  (cmp_lays a b c d w a0 a1 b0 b1 c0 c1 d0 d1).mono fun _ _ ⟨h, k⟩ => ⟨h, k.b⟩
end Go.Proofs.YtaanhddgmiggfaaGreat
