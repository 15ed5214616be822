/- The contracts of the reference of layer 1: Make, Cmp, Floor, Ceil. -/
import Derived.Test.YtaanhddgmiggfaaGreatRef
namespace Go.Proofs.YtaanhddgmiggfaaGreat.Ref
open Go.RowKit Go.Joins

set_option maxHeartbeats 4000000 in
set_option maxRecDepth 100000 in
theorem make_any (n d : Int) (w : World) (n0 : -9223372036854775808 ≤ n) (n1 : n ≤ 9223372036854775807) (d0 : -9223372036854775808 ≤ d) (d1 : d ≤ 9223372036854775807) :
    Calls Tryz.prog 105 #[.int .i64 n, .int .i64 d] w fun e w' => e = .returned (ratV (mkN n d)) ∧ Below w.heap.size w w' := by
  by_cases hd : d = 0
  · subst hd
    rw [mk_zero]
    go_enter Tryz.func105, Tryz.ntmps105
    go_wp2
    go_returns
    exact ⟨rfl, by go_grown⟩
  have hz : (d == 0) = false := by simpa using hd
  obtain ⟨a, ha⟩ : ∃ a : Int, a = n.natAbs := ⟨_, rfl⟩
  obtain ⟨b, hb⟩ : ∃ b : Int, b = d.natAbs := ⟨_, rfl⟩
  obtain ⟨g, hg⟩ : ∃ g : Int, g = (Int.gcd n d : Nat) := ⟨_, rfl⟩
  have g0 : 0 < g := by
    have : 0 < Int.gcd n d := Int.gcd_pos_of_ne_zero_right n hd
    omega
  have hga : Int.gcd a b = Int.gcd n d := by subst ha hb; simp [Int.gcd]
  have a0 : 0 ≤ a := by omega
  have b0 : 0 ≤ b := by omega
  have a1 : a ≤ 9223372036854775808 := by omega
  have b1 : b ≤ 9223372036854775808 := by omega
  have qa0 : 0 ≤ a / g := Int.ediv_nonneg a0 (by omega)
  have qb0 : 0 ≤ b / g := Int.ediv_nonneg b0 (by omega)
  have g1 : g ≤ 18446744073709551615 := by
    have h1 : Int.gcd n d ∣ d.natAbs := Int.gcd_dvd_natAbs_right n d
    have h2 := Nat.le_of_dvd (by omega) h1
    omega
  have gz : (g == 0) = false := by simp; omega
  have eqa : a / g = n.natAbs / (Int.gcd n d : Int) := by rw [ha, hg]
  have eqb : b / g = d.natAbs / (Int.gcd n d : Int) := by rw [hb, hg]
  have s1 : ∀ W : World, Calls Tryz.prog 124 #[.int .i64 n] W fun e w' => e = .returned (.int .u64 a) ∧ w' = W := fun W => by rw [ha]; exact size_any n W n0 n1
  have s2 : ∀ W : World, Calls Tryz.prog 124 #[.int .i64 d] W fun e w' => e = .returned (.int .u64 b) ∧ w' = W := fun W => by rw [hb]; exact size_any d W d0 d1
  have gc : ∀ W : World, Calls Tryz.prog 123 #[.int .u64 a, .int .u64 b] W fun e w' => e = .returned (.int .u64 g) ∧ w' = W := fun W => by rw [hg, ← hga]; exact gcd_any a b W a0 b0 (by omega) (by omega)
  have hn0 : n = 0 → a / g = 0 := fun h => by rw [ha, h]; simp
  have key : mkN n d = if a / g > 1073741824 ∨ b / g > 1073741824 then (0, 0, 3) else (if (n < 0 ∧ d > 0) ∨ (n > 0 ∧ d < 0) then -(a / g) else a / g, b / g, 0) := by
    by_cases h : a / g > 1073741824 ∨ b / g > 1073741824
    · rw [mk_long hd eqa eqb h, if_pos h]
    · rw [mk_fits hd eqa eqb (by omega) (by omega), if_neg h]
      congr 1
      by_cases hn : n < 0 <;> by_cases hm : d < 0
      · have e1 : (decide (n < 0) != decide (d < 0)) = false := by simp [hn, hm]
        rw [e1, if_neg (by decide), if_neg (by omega)]
      · have e1 : (decide (n < 0) != decide (d < 0)) = true := by simp [hn, hm]
        rw [e1, if_pos rfl, if_pos (by omega)]
      · have e1 : (decide (n < 0) != decide (d < 0)) = true := by simp [hn, hm]
        rw [e1, if_pos rfl]
        by_cases hz : n = 0
        · rw [if_neg (by omega), hn0 hz]; rfl
        · rw [if_pos (by omega)]
      · have e1 : (decide (n < 0) != decide (d < 0)) = false := by simp [hn, hm]
        rw [e1, if_neg (by decide), if_neg (by omega)]
  rw [key]
  have S1 := Lib.hid s1
  have S2 := Lib.hid s2
  have GC := Lib.hid gc
  clear ha hb hg hga eqa eqb s1 s2 gc key hn0
  have hcase : (a / g > 1073741824) ∨ (¬ a / g > 1073741824 ∧ b / g > 1073741824) ∨ (¬ a / g > 1073741824 ∧ ¬ b / g > 1073741824 ∧ n < 0 ∧ d > 0) ∨ (¬ a / g > 1073741824 ∧ ¬ b / g > 1073741824 ∧ n > 0 ∧ d < 0) ∨ (¬ a / g > 1073741824 ∧ ¬ b / g > 1073741824 ∧ n < 0 ∧ d < 0) ∨ (¬ a / g > 1073741824 ∧ ¬ b / g > 1073741824 ∧ n > 0 ∧ d > 0) ∨ (¬ a / g > 1073741824 ∧ ¬ b / g > 1073741824 ∧ n = 0) := by omega
  rcases hcase with h | ⟨h1, h⟩ | ⟨h1, h2, h3, h4⟩ | ⟨h1, h2, h3, h4⟩ | ⟨h1, h2, h3, h4⟩ | ⟨h1, h2, h3, h4⟩ | ⟨h1, h2, h3⟩
  all_goals
    first
    | rw [if_pos (by omega)]
    | rw [if_neg (by omega), if_pos (by omega)]
    | rw [if_neg (by omega), if_neg (by omega)]
    try subst h3
    go_enter Tryz.func105, Tryz.ntmps105
    go_wp2_with fail
    refine (S1.out _).mono ?_; rintro _ _ ⟨rfl, rfl⟩
    go_wp2_with fail
    refine (S2.out _).mono ?_; rintro _ _ ⟨rfl, rfl⟩
    go_wp2_with fail
    refine (GC.out _).mono ?_; rintro _ _ ⟨rfl, rfl⟩
    go_wp2_with fail
    go_quiet ((first
      | (go_at_call 124; (with_reducible exact Calls.quiet_of_same (S1.out _)))
      | (go_at_call 124; (with_reducible exact Calls.quiet_of_same (S2.out _)))))
    go_wp2
    go_returns
    refine ⟨by simp only [ratV]; try rfl, ?_⟩; (repeat' (first | (with_reducible exact Below.refl _ _) | (with_reducible refine below_drewN ?_ _) | (with_reducible refine Below.drew ?_) | (with_reducible refine Below.setCell ?_ ?_ _) | (with_reducible refine Below.alloc ?_ ?_ _) | go_size))

set_option maxHeartbeats 2000000 in
theorem cmp_any (a b c d : Int) (w : World) (a0 : -9223372036854775808 ≤ a) (a1 : a ≤ 9223372036854775807) (b0 : -9223372036854775808 ≤ b) (b1 : b ≤ 9223372036854775807) (c0 : -9223372036854775808 ≤ c) (c1 : c ≤ 9223372036854775807) (d0 : -9223372036854775808 ≤ d) (d1 : d ≤ 9223372036854775807) :
    Calls Tryz.prog 61 #[.agg #[.int .i64 a, .int .i64 b], .agg #[.int .i64 c, .int .i64 d]] w fun e w' => e = .returned (.int .i64 (cmpN a b c d)) ∧ Below w.heap.size w w' := by
  unfold cmpN
  have hW0 : ∀ w2 : World, Below ((w.alloc (.cells #[.int .i64 a, .int .i64 b] 25)).alloc (.cells #[.int .i64 c, .int .i64 d] 25)).heap.size ((w.alloc (.cells #[.int .i64 a, .int .i64 b] 25)).alloc (.cells #[.int .i64 c, .int .i64 d] 25)) w2 → Below w.heap.size w w2 := fun w2 h =>
    (((Below.refl _ _).alloc (Nat.le_refl _) _).alloc (by simp) _).trans (h.mono (by simp; omega))
  have HW0 := Lib.hid hW0
  clear hW0
  cases hx : vldB a b
  · have Hx := Lib.hid hx
    clear hx
    simp only [Bool.false_and, Bool.false_eq_true, if_false]
    go_enter Tryz.func61, Tryz.ntmps61
    go_wp2_with fail
    refine (valid_any a b _ a0 a1 b0 b1).mono ?_; rintro e w1 ⟨rfl, hb1⟩; rw [Hx.out]
    go_wp2
    go_ret
    exact ⟨rfl, HW0.out _ hb1⟩
  obtain ⟨b2, b3, a2, a3, -⟩ := vld_bd hx
  have Hx := Lib.hid hx
  clear hx
  cases hy : vldB c d
  · have Hy := Lib.hid hy
    clear hy
    simp only [Bool.and_false, Bool.false_eq_true, if_false]
    go_enter Tryz.func61, Tryz.ntmps61
    go_wp2_with fail
    refine (valid_any a b _ a0 a1 b0 b1).mono ?_; rintro e w1 ⟨rfl, hb1⟩; rw [Hx.out]
    obtain ⟨hc, hf⟩ := bcell hb1
    simp only [World.size_alloc] at hc hf
    go_wp2_with fail
    refine (valid_any c d _ c0 c1 d0 d1).mono ?_; rintro e w2 ⟨rfl, hb2⟩; rw [Hy.out]
    replace hb2 := bnext hb1 hb2
    go_wp2
    go_ret
    exact ⟨rfl, HW0.out _ hb2⟩
  obtain ⟨d2, d3, c2, c3, -⟩ := vld_bd hy
  have Hy := Lib.hid hy
  clear hy
  have h1 := mulb a2 a3 (show -1073741824 ≤ d by omega) d3
  have h2 := mulb c2 c3 (show -1073741824 ≤ b by omega) b3
  simp only [Bool.and_self, if_true]
  rcases Int.lt_trichotomy (a * d) (c * b) with hl | hl | hl
  · rw [show sgnI (a * d) (c * b) = -1 by simp [sgnI, hl]]
    have hne : (a * d == c * b) = false := by simp; omega
    go_enter Tryz.func61, Tryz.ntmps61
    go_wp2_with fail
    refine (valid_any a b _ a0 a1 b0 b1).mono ?_; rintro e w1 ⟨rfl, hb1⟩; rw [Hx.out]
    obtain ⟨hc, hf⟩ := bcell hb1
    simp only [World.size_alloc] at hc hf
    go_wp2_with fail
    refine (valid_any c d _ c0 c1 d0 d1).mono ?_; rintro e w2 ⟨rfl, hb2⟩; rw [Hy.out]
    replace hb2 := bnext hb1 hb2
    clear hc hf hb1
    obtain ⟨hc, hf⟩ := bcell hb2
    simp only [World.size_alloc] at hc hf
    go_wp2
    go_ret
    exact ⟨rfl, HW0.out _ hb2⟩
  · rw [show sgnI (a * d) (c * b) = 0 by simp [sgnI, hl]]
    have hne : (a * d == c * b) = true := by simp [hl]
    clear hl
    go_enter Tryz.func61, Tryz.ntmps61
    go_wp2_with fail
    refine (valid_any a b _ a0 a1 b0 b1).mono ?_; rintro e w1 ⟨rfl, hb1⟩; rw [Hx.out]
    obtain ⟨hc, hf⟩ := bcell hb1
    simp only [World.size_alloc] at hc hf
    go_wp2_with fail
    refine (valid_any c d _ c0 c1 d0 d1).mono ?_; rintro e w2 ⟨rfl, hb2⟩; rw [Hy.out]
    replace hb2 := bnext hb1 hb2
    clear hc hf hb1
    obtain ⟨hc, hf⟩ := bcell hb2
    simp only [World.size_alloc] at hc hf
    go_wp2
    go_ret
    exact ⟨rfl, HW0.out _ hb2⟩
  · rw [show sgnI (a * d) (c * b) = 1 by unfold sgnI; rw [if_neg (by omega), if_pos hl]]
    have hne : (a * d == c * b) = false := by simp; omega
    have hnl : ¬ a * d < c * b := by omega
    go_enter Tryz.func61, Tryz.ntmps61
    go_wp2_with fail
    refine (valid_any a b _ a0 a1 b0 b1).mono ?_; rintro e w1 ⟨rfl, hb1⟩; rw [Hx.out]
    obtain ⟨hc, hf⟩ := bcell hb1
    simp only [World.size_alloc] at hc hf
    go_wp2_with fail
    refine (valid_any c d _ c0 c1 d0 d1).mono ?_; rintro e w2 ⟨rfl, hb2⟩; rw [Hy.out]
    replace hb2 := bnext hb1 hb2
    clear hc hf hb1
    obtain ⟨hc, hf⟩ := bcell hb2
    simp only [World.size_alloc] at hc hf
    go_wp2
    go_ret
    exact ⟨rfl, HW0.out _ hb2⟩
end Go.Proofs.YtaanhddgmiggfaaGreat.Ref
