/- Merged texts: Ref, RefMake, RefDo, RGood, RVal. -/
import Derived.Test.YtbncfknjgldcbaaGreatM1
import Derived.Lib.SmallJoins
/- The contracts of the reference of layer 1: the same functions of the same numbers. -/
namespace Go.Proofs.YtbncfknjgldcbaaGreat.Ref
open Go.RowKit Go.Joins

/-- The absolute value as an unsigned number, of every int. -/
theorem size_any (n : Int) (w : World) (n0 : -9223372036854775808 ≤ n) (n1 : n ≤ 9223372036854775807) :
    Calls Tryz.prog 118 #[.int .i64 n] w fun e w' => e = .returned (.int .u64 (n.natAbs : Nat)) ∧ w' = w := by
  by_cases h : n < 0
  · go_enter Tryz.func118, Tryz.ntmps118
    go_wp2
    go_ret
    refine ⟨ret_int ?_, rfl⟩
    go_arith
  · go_enter Tryz.func118, Tryz.ntmps118
    go_wp2
    go_ret
    exact ⟨ret_int (by omega), rfl⟩

set_option maxHeartbeats 400000 in
theorem gcd_rec : ∀ (k : Nat) (a b : Int) (w : World), b.toNat ≤ k → 0 ≤ a → 0 ≤ b → a ≤ 18446744073709551615 → b ≤ 18446744073709551615 →
    Calls Tryz.prog 117 #[.int .u64 a, .int .u64 b] w fun e w' => e = .returned (.int .u64 (Int.gcd a b : Nat)) ∧ w' = w := by
  intro k
  induction k with
  | zero =>
    intro a b w hk a0 b0 a1 b1
    have hb : b = 0 := by omega
    subst hb
    go_enter Tryz.func117, Tryz.ntmps117
    go_wp2
    go_ret
    exact ⟨ret_int (by rw [Int.gcd_zero_right]; omega), rfl⟩
  | succ k ih =>
    intro a b w hk a0 b0 a1 b1
    have IH := Lib.hid ih
    clear ih
    by_cases hb : b = 0
    · subst hb
      go_enter Tryz.func117, Tryz.ntmps117
      go_wp2
      go_ret
      exact ⟨ret_int (by rw [Int.gcd_zero_right]; omega), rfl⟩
    · have hbp : 0 < b := by omega
      have hz : (b == 0) = false := by simpa using hb
      have m0 : 0 ≤ a % b := Int.emod_nonneg _ hb
      have m1 : a % b < b := Int.emod_lt_of_pos _ hbp
      have hs := Lib.hid (gcd_step a b hbp a0)
      go_enter Tryz.func117, Tryz.ntmps117
      go_wp2_with fail
      refine (IH.out b (a % b) _ (by omega) b0 m0 b1 (by omega)).mono ?_; rintro e w1 ⟨rfl, rfl⟩; rw [hs.out]
      go_wp2
      go_ret
      exact ⟨rfl, rfl⟩
theorem gcd_any (a b : Int) (w : World) (a0 : 0 ≤ a) (b0 : 0 ≤ b) (a1 : a ≤ 18446744073709551615) (b1 : b ≤ 18446744073709551615) :
    Calls Tryz.prog 117 #[.int .u64 a, .int .u64 b] w fun e w' => e = .returned (.int .u64 (Int.gcd a b : Nat)) ∧ w' = w := gcd_rec _ a b w (Nat.le_refl _) a0 b0 a1 b1

set_option maxHeartbeats 2000000 in
theorem valid_any (n d : Int) (w : World) (n0 : -9223372036854775808 ≤ n) (n1 : n ≤ 9223372036854775807) (d0 : -9223372036854775808 ≤ d) (d1 : d ≤ 9223372036854775807) :
    Calls Tryz.prog 82 #[.agg #[.int .i64 n, .int .i64 d]] w fun e w' => e = .returned (.bool (vldB n d)) ∧ Below w.heap.size w w' := by
  by_cases h1 : d < 1
  · have g1 : decide (1 ≤ d) = false := by simp; omega
    rw [vld_no (by omega)]
    go_enter Tryz.func82, Tryz.ntmps82
    go_wp2_with fail
    go_quiet (fail)
    go_wp2
    go_ret
    exact ⟨rfl, by (repeat' (first | (with_reducible exact Below.refl _ _) | (with_reducible refine below_drewN ?_ _) | (with_reducible refine Below.drew ?_) | (with_reducible refine Below.setCell ?_ ?_ _) | (with_reducible refine Below.alloc ?_ ?_ _) | go_size))⟩
  have g1 : decide (1 ≤ d) = true := by simp; omega
  by_cases h2 : d > 1073741824
  · have g2 : decide (d ≤ 1073741824) = false := by simp; omega
    rw [vld_no (by omega)]
    go_enter Tryz.func82, Tryz.ntmps82
    go_wp2_with fail
    go_quiet (fail)
    go_wp2
    go_ret
    exact ⟨rfl, by (repeat' (first | (with_reducible exact Below.refl _ _) | (with_reducible refine below_drewN ?_ _) | (with_reducible refine Below.drew ?_) | (with_reducible refine Below.setCell ?_ ?_ _) | (with_reducible refine Below.alloc ?_ ?_ _) | go_size))⟩
  have g2 : decide (d ≤ 1073741824) = true := by simp; omega
  by_cases h3 : n < -1073741824
  · have g3 : decide (-1073741824 ≤ n) = false := by simp; omega
    rw [vld_no (by omega)]
    go_enter Tryz.func82, Tryz.ntmps82
    go_wp2_with fail
    go_quiet (fail)
    go_wp2
    go_ret
    exact ⟨rfl, by (repeat' (first | (with_reducible exact Below.refl _ _) | (with_reducible refine below_drewN ?_ _) | (with_reducible refine Below.drew ?_) | (with_reducible refine Below.setCell ?_ ?_ _) | (with_reducible refine Below.alloc ?_ ?_ _) | go_size))⟩
  have g3 : decide (-1073741824 ≤ n) = true := by simp; omega
  by_cases h4 : n > 1073741824
  · have g4 : decide (n ≤ 1073741824) = false := by simp; omega
    rw [vld_no (by omega)]
    go_enter Tryz.func82, Tryz.ntmps82
    go_wp2_with fail
    go_quiet (fail)
    go_wp2
    go_ret
    exact ⟨rfl, by (repeat' (first | (with_reducible exact Below.refl _ _) | (with_reducible refine below_drewN ?_ _) | (with_reducible refine Below.drew ?_) | (with_reducible refine Below.setCell ?_ ?_ _) | (with_reducible refine Below.alloc ?_ ?_ _) | go_size))⟩
  have g4 : decide (n ≤ 1073741824) = true := by simp; omega
  rw [vld_in (by omega) (by omega) (by omega) (by omega)]
  obtain ⟨a, ha⟩ : ∃ a : Int, a = n.natAbs := ⟨_, rfl⟩
  obtain ⟨q, hq⟩ : ∃ q, ((Int.gcd a d : Nat) : Int) = q := ⟨_, rfl⟩
  have a0 : 0 ≤ a := by omega
  have a1 : a ≤ 1073741824 := by omega
  have hga : Int.gcd a d = Int.gcd n d := by rw [ha]; simp [Int.gcd]
  have hr : decide (Int.gcd n d = 1) = (q == 1) := by rw [← hga, Bool.eq_iff_iff]; simp; omega
  have sz : ∀ W : World, Calls Tryz.prog 118 #[.int .i64 n] W fun e w' => e = .returned (.int .u64 a) ∧ w' = W := fun W => by rw [ha]; exact size_any n W n0 n1
  have gc : ∀ W : World, Calls Tryz.prog 117 #[.int .u64 a, .int .u64 d] W fun e w' => e = .returned (.int .u64 q) ∧ w' = W := fun W => by rw [← hq]; exact gcd_any a d W a0 (by omega) (by omega) (by omega)
  rw [hr]
  have SZ := Lib.hid sz
  have GC := Lib.hid gc
  clear ha hq hga hr sz gc
  go_enter Tryz.func82, Tryz.ntmps82
  go_wp2_with fail
  go_quiet ((first
    | (go_at_call 118; exact Calls.quiet_of_same (SZ.out _))
    | (go_at_call 117; exact Calls.quiet_of_same (GC.out _))))
  go_wp2
  go_ret
  exact ⟨rfl, by (repeat' (first | (with_reducible exact Below.refl _ _) | (with_reducible refine below_drewN ?_ _) | (with_reducible refine Below.drew ?_) | (with_reducible refine Below.setCell ?_ ?_ _) | (with_reducible refine Below.alloc ?_ ?_ _) | go_size))⟩
end Go.Proofs.YtbncfknjgldcbaaGreat.Ref
/- The contracts of the reference of layer 1: Make, Cmp, Floor, Ceil. -/
namespace Go.Proofs.YtbncfknjgldcbaaGreat.Ref
open Go.RowKit Go.Joins

set_option maxHeartbeats 4000000 in
set_option maxRecDepth 100000 in
theorem make_any (n d : Int) (w : World) (n0 : -9223372036854775808 ≤ n) (n1 : n ≤ 9223372036854775807) (d0 : -9223372036854775808 ≤ d) (d1 : d ≤ 9223372036854775807) :
    Calls Tryz.prog 99 #[.int .i64 n, .int .i64 d] w fun e w' => e = .returned (ratV (mkN n d)) ∧ Below w.heap.size w w' := by
  by_cases hd : d = 0
  · subst hd
    rw [mk_zero]
    go_enter Tryz.func99, Tryz.ntmps99
    go_wp2
    go_returns
    exact ⟨rfl, by go_grown⟩
  have hz : (d == 0) = false := by simpa using hd
  obtain ⟨a, ha⟩ : ∃ a : Int, a = n.natAbs := ⟨_, rfl⟩
  obtain ⟨b, hb⟩ : ∃ b : Int, b = d.natAbs := ⟨_, rfl⟩
  obtain ⟨g, hg⟩ : ∃ g : Int, g = (Int.gcd n d : Nat) := ⟨_, rfl⟩
  have g0 : 0 < g := by
    have : 0 < Int.gcd n d := Int.gcd_pos_of_ne_zero_right n hd
    omega
  have hga : Int.gcd a b = Int.gcd n d := by subst ha hb; simp [Int.gcd]
  have a0 : 0 ≤ a := by omega
  have b0 : 0 ≤ b := by omega
  have a1 : a ≤ 9223372036854775808 := by omega
  have b1 : b ≤ 9223372036854775808 := by omega
  have qa0 : 0 ≤ a / g := Int.ediv_nonneg a0 (by omega)
  have qb0 : 0 ≤ b / g := Int.ediv_nonneg b0 (by omega)
  have g1 : g ≤ 18446744073709551615 := by
    have h1 : Int.gcd n d ∣ d.natAbs := Int.gcd_dvd_natAbs_right n d
    have h2 := Nat.le_of_dvd (by omega) h1
    omega
  have gz : (g == 0) = false := by simp; omega
  have eqa : a / g = n.natAbs / (Int.gcd n d : Int) := by rw [ha, hg]
  have eqb : b / g = d.natAbs / (Int.gcd n d : Int) := by rw [hb, hg]
  have s1 : ∀ W : World, Calls Tryz.prog 118 #[.int .i64 n] W fun e w' => e = .returned (.int .u64 a) ∧ w' = W := fun W => by rw [ha]; exact size_any n W n0 n1
  have s2 : ∀ W : World, Calls Tryz.prog 118 #[.int .i64 d] W fun e w' => e = .returned (.int .u64 b) ∧ w' = W := fun W => by rw [hb]; exact size_any d W d0 d1
  have gc : ∀ W : World, Calls Tryz.prog 117 #[.int .u64 a, .int .u64 b] W fun e w' => e = .returned (.int .u64 g) ∧ w' = W := fun W => by rw [hg, ← hga]; exact gcd_any a b W a0 b0 (by omega) (by omega)
  have hn0 : n = 0 → a / g = 0 := fun h => by rw [ha, h]; simp
  have key : mkN n d = if a / g > 1073741824 ∨ b / g > 1073741824 then (0, 0, 3) else (if (n < 0 ∧ d > 0) ∨ (n > 0 ∧ d < 0) then -(a / g) else a / g, b / g, 0) := by
    by_cases h : a / g > 1073741824 ∨ b / g > 1073741824
    · rw [mk_long hd eqa eqb h, if_pos h]
    · rw [mk_fits hd eqa eqb (by omega) (by omega), if_neg h]
      congr 1
      by_cases hn : n < 0 <;> by_cases hm : d < 0
      · have e1 : (decide (n < 0) != decide (d < 0)) = false := by simp [hn, hm]
        rw [e1, if_neg (by decide), if_neg (by omega)]
      · have e1 : (decide (n < 0) != decide (d < 0)) = true := by simp [hn, hm]
        rw [e1, if_pos rfl, if_pos (by omega)]
      · have e1 : (decide (n < 0) != decide (d < 0)) = true := by simp [hn, hm]
        rw [e1, if_pos rfl]
        by_cases hz : n = 0
        · rw [if_neg (by omega), hn0 hz]; rfl
        · rw [if_pos (by omega)]
      · have e1 : (decide (n < 0) != decide (d < 0)) = false := by simp [hn, hm]
        rw [e1, if_neg (by decide), if_neg (by omega)]
  rw [key]
  have S1 := Lib.hid s1
  have S2 := Lib.hid s2
  have GC := Lib.hid gc
  clear ha hb hg hga eqa eqb s1 s2 gc key hn0
  have hcase : (a / g > 1073741824) ∨ (¬ a / g > 1073741824 ∧ b / g > 1073741824) ∨ (¬ a / g > 1073741824 ∧ ¬ b / g > 1073741824 ∧ n < 0 ∧ d > 0) ∨ (¬ a / g > 1073741824 ∧ ¬ b / g > 1073741824 ∧ n > 0 ∧ d < 0) ∨ (¬ a / g > 1073741824 ∧ ¬ b / g > 1073741824 ∧ n < 0 ∧ d < 0) ∨ (¬ a / g > 1073741824 ∧ ¬ b / g > 1073741824 ∧ n > 0 ∧ d > 0) ∨ (¬ a / g > 1073741824 ∧ ¬ b / g > 1073741824 ∧ n = 0) := by omega
  rcases hcase with h | ⟨h1, h⟩ | ⟨h1, h2, h3, h4⟩ | ⟨h1, h2, h3, h4⟩ | ⟨h1, h2, h3, h4⟩ | ⟨h1, h2, h3, h4⟩ | ⟨h1, h2, h3⟩
  all_goals
    first
    | rw [if_pos (by omega)]
    | rw [if_neg (by omega), if_pos (by omega)]
    | rw [if_neg (by omega), if_neg (by omega)]
    try subst h3
    go_enter Tryz.func99, Tryz.ntmps99
    go_wp2_with fail
    refine (S1.out _).mono ?_; rintro _ _ ⟨rfl, rfl⟩
    go_wp2_with fail
    refine (S2.out _).mono ?_; rintro _ _ ⟨rfl, rfl⟩
    go_wp2_with fail
    refine (GC.out _).mono ?_; rintro _ _ ⟨rfl, rfl⟩
    go_wp2_with fail
    go_quiet ((first
      | (go_at_call 118; (with_reducible exact Calls.quiet_of_same (S1.out _)))
      | (go_at_call 118; (with_reducible exact Calls.quiet_of_same (S2.out _)))))
    go_wp2
    go_returns
    refine ⟨by simp only [ratV]; try rfl, ?_⟩; (repeat' (first | (with_reducible exact Below.refl _ _) | (with_reducible refine below_drewN ?_ _) | (with_reducible refine Below.drew ?_) | (with_reducible refine Below.setCell ?_ ?_ _) | (with_reducible refine Below.alloc ?_ ?_ _) | go_size))

set_option maxHeartbeats 2000000 in
theorem cmp_any (a b c d : Int) (w : World) (a0 : -9223372036854775808 ≤ a) (a1 : a ≤ 9223372036854775807) (b0 : -9223372036854775808 ≤ b) (b1 : b ≤ 9223372036854775807) (c0 : -9223372036854775808 ≤ c) (c1 : c ≤ 9223372036854775807) (d0 : -9223372036854775808 ≤ d) (d1 : d ≤ 9223372036854775807) :
    Calls Tryz.prog 53 #[.agg #[.int .i64 a, .int .i64 b], .agg #[.int .i64 c, .int .i64 d]] w fun e w' => e = .returned (.int .i64 (cmpN a b c d)) ∧ Below w.heap.size w w' := by
  unfold cmpN
  have hW0 : ∀ w2 : World, Below ((w.alloc (.cells #[.int .i64 a, .int .i64 b] 25)).alloc (.cells #[.int .i64 c, .int .i64 d] 25)).heap.size ((w.alloc (.cells #[.int .i64 a, .int .i64 b] 25)).alloc (.cells #[.int .i64 c, .int .i64 d] 25)) w2 → Below w.heap.size w w2 := fun w2 h =>
    (((Below.refl _ _).alloc (Nat.le_refl _) _).alloc (by simp) _).trans (h.mono (by simp; omega))
  have HW0 := Lib.hid hW0
  clear hW0
  cases hx : vldB a b
  · have Hx := Lib.hid hx
    clear hx
    simp only [Bool.false_and, Bool.false_eq_true, if_false]
    go_enter Tryz.func53, Tryz.ntmps53
    go_wp2_with fail
    refine (valid_any a b _ a0 a1 b0 b1).mono ?_; rintro e w1 ⟨rfl, hb1⟩; rw [Hx.out]
    go_wp2
    go_ret
    exact ⟨rfl, HW0.out _ hb1⟩
  obtain ⟨b2, b3, a2, a3, -⟩ := vld_bd hx
  have Hx := Lib.hid hx
  clear hx
  cases hy : vldB c d
  · have Hy := Lib.hid hy
    clear hy
    simp only [Bool.and_false, Bool.false_eq_true, if_false]
    go_enter Tryz.func53, Tryz.ntmps53
    go_wp2_with fail
    refine (valid_any a b _ a0 a1 b0 b1).mono ?_; rintro e w1 ⟨rfl, hb1⟩; rw [Hx.out]
    obtain ⟨hc, hf⟩ := bcell hb1
    simp only [World.size_alloc] at hc hf
    go_wp2_with fail
    refine (valid_any c d _ c0 c1 d0 d1).mono ?_; rintro e w2 ⟨rfl, hb2⟩; rw [Hy.out]
    replace hb2 := bnext hb1 hb2
    go_wp2
    go_ret
    exact ⟨rfl, HW0.out _ hb2⟩
  obtain ⟨d2, d3, c2, c3, -⟩ := vld_bd hy
  have Hy := Lib.hid hy
  clear hy
  have h1 := mulb a2 a3 (show -1073741824 ≤ d by omega) d3
  have h2 := mulb c2 c3 (show -1073741824 ≤ b by omega) b3
  simp only [Bool.and_self, if_true]
  rcases Int.lt_trichotomy (a * d) (c * b) with hl | hl | hl
  · rw [show sgnI (a * d) (c * b) = -1 by simp [sgnI, hl]]
    have hne : (a * d == c * b) = false := by simp; omega
    go_enter Tryz.func53, Tryz.ntmps53
    go_wp2_with fail
    refine (valid_any a b _ a0 a1 b0 b1).mono ?_; rintro e w1 ⟨rfl, hb1⟩; rw [Hx.out]
    obtain ⟨hc, hf⟩ := bcell hb1
    simp only [World.size_alloc] at hc hf
    go_wp2_with fail
    refine (valid_any c d _ c0 c1 d0 d1).mono ?_; rintro e w2 ⟨rfl, hb2⟩; rw [Hy.out]
    replace hb2 := bnext hb1 hb2
    clear hc hf hb1
    obtain ⟨hc, hf⟩ := bcell hb2
    simp only [World.size_alloc] at hc hf
    go_wp2
    go_ret
    exact ⟨rfl, HW0.out _ hb2⟩
  · rw [show sgnI (a * d) (c * b) = 0 by simp [sgnI, hl]]
    have hne : (a * d == c * b) = true := by simp [hl]
    clear hl
    go_enter Tryz.func53, Tryz.ntmps53
    go_wp2_with fail
    refine (valid_any a b _ a0 a1 b0 b1).mono ?_; rintro e w1 ⟨rfl, hb1⟩; rw [Hx.out]
    obtain ⟨hc, hf⟩ := bcell hb1
    simp only [World.size_alloc] at hc hf
    go_wp2_with fail
    refine (valid_any c d _ c0 c1 d0 d1).mono ?_; rintro e w2 ⟨rfl, hb2⟩; rw [Hy.out]
    replace hb2 := bnext hb1 hb2
    clear hc hf hb1
    obtain ⟨hc, hf⟩ := bcell hb2
    simp only [World.size_alloc] at hc hf
    go_wp2
    go_ret
    exact ⟨rfl, HW0.out _ hb2⟩
  · rw [show sgnI (a * d) (c * b) = 1 by unfold sgnI; rw [if_neg (by omega), if_pos hl]]
    have hne : (a * d == c * b) = false := by simp; omega
    have hnl : ¬ a * d < c * b := by omega
    go_enter Tryz.func53, Tryz.ntmps53
    go_wp2_with fail
    refine (valid_any a b _ a0 a1 b0 b1).mono ?_; rintro e w1 ⟨rfl, hb1⟩; rw [Hx.out]
    obtain ⟨hc, hf⟩ := bcell hb1
    simp only [World.size_alloc] at hc hf
    go_wp2_with fail
    refine (valid_any c d _ c0 c1 d0 d1).mono ?_; rintro e w2 ⟨rfl, hb2⟩; rw [Hy.out]
    replace hb2 := bnext hb1 hb2
    clear hc hf hb1
    obtain ⟨hc, hf⟩ := bcell hb2
    simp only [World.size_alloc] at hc hf
    go_wp2
    go_ret
    exact ⟨rfl, HW0.out _ hb2⟩
end Go.Proofs.YtbncfknjgldcbaaGreat.Ref
/- The contract of the reference's Do, at each of the four operations. -/
namespace Go.Proofs.YtbncfknjgldcbaaGreat.Ref
open Go.RowKit Go.Joins

set_option maxHeartbeats 2000000 in
theorem do_add (a b c d : Int) (w : World) (hx : vldB a b = true) (hy : vldB c d = true) :
    Calls Tryz.prog 60 #[.int .i64 0, .agg #[.int .i64 a, .int .i64 b], .agg #[.int .i64 c, .int .i64 d]] w fun e w' => e = .returned (ratV (mkN (a * d + c * b) (b * d))) ∧ Below w.heap.size w w' := by
  obtain ⟨b0, b1, a0, a1, -⟩ := vld_bd hx
  obtain ⟨d0, d1, c0, c1, -⟩ := vld_bd hy
  have Hx := Lib.hid hx
  have Hy := Lib.hid hy
  clear hx hy
  have hp1 := mulb a0 a1 (show -1073741824 ≤ d by omega) d1
  have hp2 := mulb c0 c1 (show -1073741824 ≤ b by omega) b1
  have hp3 := mulb a0 a1 c0 c1
  have hq1 := mulb (show -1073741824 ≤ b by omega) b1 (show -1073741824 ≤ d by omega) d1
  have hq2 := mulb (show -1073741824 ≤ b by omega) b1 c0 c1
  go_enter Tryz.func60, Tryz.ntmps60
  go_wp2_with fail
  refine (valid_any a b _ (by omega) (by omega) (by omega) (by omega)).mono ?_; rintro e w1 ⟨rfl, hb1⟩; rw [Hx.out]
  obtain ⟨hc, hf⟩ := bcell hb1
  have hz := hb1.size
  simp only [World.size_alloc] at hc hf hz
  go_wp2_with fail
  refine (valid_any c d _ (by omega) (by omega) (by omega) (by omega)).mono ?_; rintro e w2 ⟨rfl, hb2⟩; rw [Hy.out]
  replace hb2 := bnext hb1 hb2
  clear hc hf hz hb1
  obtain ⟨hc, hf⟩ := bcell hb2
  have hz := hb2.size
  simp only [World.size_alloc] at hc hf hz
  go_wp2_with fail
  refine (make_any _ _ _ (by omega) (by omega) (by omega) (by omega)).mono ?_; rintro e w4 ⟨rfl, hb4⟩
  replace hb4 := bnext hb2 hb4
  clear hb2 hc hf hz
  obtain ⟨hc, hf⟩ := bcell hb4
  have hz := hb4.size
  simp only [World.size_alloc] at hc hf hz
  obtain ⟨m, hm⟩ : ∃ m, m = mkN (a * d + c * b) (b * d) := ⟨_, rfl⟩
  rw [← hm]
  have Hm := Lib.hid hm
  clear hm hp1 hp2 hp3 hq1 hq2
  obtain ⟨m1, m2, m3⟩ := m
  simp only [ratV]
  go_wp2
  refine bodyPost_ret (v := ratV (m1, m2, m3)) (by simp [results, Tryz.results60, go_sem, ratV, hc]) rfl ⟨by rw [← Hm.out], ?_⟩
  have hB : Below w.heap.size w w4 := ((((Below.refl _ _).alloc (Nat.le_refl _) _).alloc (by simp) _).alloc (by simp; omega) _).trans (hb4.mono (by simp; omega))
  exact (hB.setCell (by simp; omega) _).setCell (by simp; omega) _

set_option maxHeartbeats 2000000 in
theorem do_sub (a b c d : Int) (w : World) (hx : vldB a b = true) (hy : vldB c d = true) :
    Calls Tryz.prog 60 #[.int .i64 1, .agg #[.int .i64 a, .int .i64 b], .agg #[.int .i64 c, .int .i64 d]] w fun e w' => e = .returned (ratV (mkN (a * d - c * b) (b * d))) ∧ Below w.heap.size w w' := by
  obtain ⟨b0, b1, a0, a1, -⟩ := vld_bd hx
  obtain ⟨d0, d1, c0, c1, -⟩ := vld_bd hy
  have Hx := Lib.hid hx
  have Hy := Lib.hid hy
  clear hx hy
  have hp1 := mulb a0 a1 (show -1073741824 ≤ d by omega) d1
  have hp2 := mulb c0 c1 (show -1073741824 ≤ b by omega) b1
  have hp3 := mulb a0 a1 c0 c1
  have hq1 := mulb (show -1073741824 ≤ b by omega) b1 (show -1073741824 ≤ d by omega) d1
  have hq2 := mulb (show -1073741824 ≤ b by omega) b1 c0 c1
  go_enter Tryz.func60, Tryz.ntmps60
  go_wp2_with fail
  refine (valid_any a b _ (by omega) (by omega) (by omega) (by omega)).mono ?_; rintro e w1 ⟨rfl, hb1⟩; rw [Hx.out]
  obtain ⟨hc, hf⟩ := bcell hb1
  have hz := hb1.size
  simp only [World.size_alloc] at hc hf hz
  go_wp2_with fail
  refine (valid_any c d _ (by omega) (by omega) (by omega) (by omega)).mono ?_; rintro e w2 ⟨rfl, hb2⟩; rw [Hy.out]
  replace hb2 := bnext hb1 hb2
  clear hc hf hz hb1
  obtain ⟨hc, hf⟩ := bcell hb2
  have hz := hb2.size
  simp only [World.size_alloc] at hc hf hz
  go_wp2_with fail
  refine (make_any _ _ _ (by omega) (by omega) (by omega) (by omega)).mono ?_; rintro e w4 ⟨rfl, hb4⟩
  replace hb4 := bnext hb2 hb4
  clear hb2 hc hf hz
  obtain ⟨hc, hf⟩ := bcell hb4
  have hz := hb4.size
  simp only [World.size_alloc] at hc hf hz
  obtain ⟨m, hm⟩ : ∃ m, m = mkN (a * d - c * b) (b * d) := ⟨_, rfl⟩
  rw [← hm]
  have Hm := Lib.hid hm
  clear hm hp1 hp2 hp3 hq1 hq2
  obtain ⟨m1, m2, m3⟩ := m
  simp only [ratV]
  go_wp2
  refine bodyPost_ret (v := ratV (m1, m2, m3)) (by simp [results, Tryz.results60, go_sem, ratV, hc]) rfl ⟨by rw [← Hm.out], ?_⟩
  have hB : Below w.heap.size w w4 := ((((Below.refl _ _).alloc (Nat.le_refl _) _).alloc (by simp) _).alloc (by simp; omega) _).trans (hb4.mono (by simp; omega))
  exact (hB.setCell (by simp; omega) _).setCell (by simp; omega) _

set_option maxHeartbeats 2000000 in
theorem do_mul (a b c d : Int) (w : World) (hx : vldB a b = true) (hy : vldB c d = true) :
    Calls Tryz.prog 60 #[.int .i64 2, .agg #[.int .i64 a, .int .i64 b], .agg #[.int .i64 c, .int .i64 d]] w fun e w' => e = .returned (ratV (mkN (a * c) (b * d))) ∧ Below w.heap.size w w' := by
  obtain ⟨b0, b1, a0, a1, -⟩ := vld_bd hx
  obtain ⟨d0, d1, c0, c1, -⟩ := vld_bd hy
  have Hx := Lib.hid hx
  have Hy := Lib.hid hy
  clear hx hy
  have hp1 := mulb a0 a1 (show -1073741824 ≤ d by omega) d1
  have hp2 := mulb c0 c1 (show -1073741824 ≤ b by omega) b1
  have hp3 := mulb a0 a1 c0 c1
  have hq1 := mulb (show -1073741824 ≤ b by omega) b1 (show -1073741824 ≤ d by omega) d1
  have hq2 := mulb (show -1073741824 ≤ b by omega) b1 c0 c1
  go_enter Tryz.func60, Tryz.ntmps60
  go_wp2_with fail
  refine (valid_any a b _ (by omega) (by omega) (by omega) (by omega)).mono ?_; rintro e w1 ⟨rfl, hb1⟩; rw [Hx.out]
  obtain ⟨hc, hf⟩ := bcell hb1
  have hz := hb1.size
  simp only [World.size_alloc] at hc hf hz
  go_wp2_with fail
  refine (valid_any c d _ (by omega) (by omega) (by omega) (by omega)).mono ?_; rintro e w2 ⟨rfl, hb2⟩; rw [Hy.out]
  replace hb2 := bnext hb1 hb2
  clear hc hf hz hb1
  obtain ⟨hc, hf⟩ := bcell hb2
  have hz := hb2.size
  simp only [World.size_alloc] at hc hf hz
  go_wp2_with fail
  refine (make_any _ _ _ (by omega) (by omega) (by omega) (by omega)).mono ?_; rintro e w4 ⟨rfl, hb4⟩
  replace hb4 := bnext hb2 hb4
  clear hb2 hc hf hz
  obtain ⟨hc, hf⟩ := bcell hb4
  have hz := hb4.size
  simp only [World.size_alloc] at hc hf hz
  obtain ⟨m, hm⟩ : ∃ m, m = mkN (a * c) (b * d) := ⟨_, rfl⟩
  rw [← hm]
  have Hm := Lib.hid hm
  clear hm hp1 hp2 hp3 hq1 hq2
  obtain ⟨m1, m2, m3⟩ := m
  simp only [ratV]
  go_wp2
  refine bodyPost_ret (v := ratV (m1, m2, m3)) (by simp [results, Tryz.results60, go_sem, ratV, hc]) rfl ⟨by rw [← Hm.out], ?_⟩
  have hB : Below w.heap.size w w4 := ((((Below.refl _ _).alloc (Nat.le_refl _) _).alloc (by simp) _).alloc (by simp; omega) _).trans (hb4.mono (by simp; omega))
  exact (hB.setCell (by simp; omega) _).setCell (by simp; omega) _

set_option maxHeartbeats 2000000 in
theorem do_div (a b c d : Int) (w : World) (hx : vldB a b = true) (hy : vldB c d = true) (hne : (c == 0) = false) :
    Calls Tryz.prog 60 #[.int .i64 3, .agg #[.int .i64 a, .int .i64 b], .agg #[.int .i64 c, .int .i64 d]] w fun e w' => e = .returned (ratV (mkN (a * d) (b * c))) ∧ Below w.heap.size w w' := by
  obtain ⟨b0, b1, a0, a1, -⟩ := vld_bd hx
  obtain ⟨d0, d1, c0, c1, -⟩ := vld_bd hy
  have Hx := Lib.hid hx
  have Hy := Lib.hid hy
  clear hx hy
  have hp1 := mulb a0 a1 (show -1073741824 ≤ d by omega) d1
  have hp2 := mulb c0 c1 (show -1073741824 ≤ b by omega) b1
  have hp3 := mulb a0 a1 c0 c1
  have hq1 := mulb (show -1073741824 ≤ b by omega) b1 (show -1073741824 ≤ d by omega) d1
  have hq2 := mulb (show -1073741824 ≤ b by omega) b1 c0 c1
  go_enter Tryz.func60, Tryz.ntmps60
  go_wp2_with fail
  refine (valid_any a b _ (by omega) (by omega) (by omega) (by omega)).mono ?_; rintro e w1 ⟨rfl, hb1⟩; rw [Hx.out]
  obtain ⟨hc, hf⟩ := bcell hb1
  have hz := hb1.size
  simp only [World.size_alloc] at hc hf hz
  go_wp2_with fail
  refine (valid_any c d _ (by omega) (by omega) (by omega) (by omega)).mono ?_; rintro e w2 ⟨rfl, hb2⟩; rw [Hy.out]
  replace hb2 := bnext hb1 hb2
  clear hc hf hz hb1
  obtain ⟨hc, hf⟩ := bcell hb2
  have hz := hb2.size
  simp only [World.size_alloc] at hc hf hz
  go_wp2_with fail
  refine (make_any _ _ _ (by omega) (by omega) (by omega) (by omega)).mono ?_; rintro e w4 ⟨rfl, hb4⟩
  replace hb4 := bnext hb2 hb4
  clear hb2 hc hf hz
  obtain ⟨hc, hf⟩ := bcell hb4
  have hz := hb4.size
  simp only [World.size_alloc] at hc hf hz
  obtain ⟨m, hm⟩ : ∃ m, m = mkN (a * d) (b * c) := ⟨_, rfl⟩
  rw [← hm]
  have Hm := Lib.hid hm
  clear hm hp1 hp2 hp3 hq1 hq2
  obtain ⟨m1, m2, m3⟩ := m
  simp only [ratV]
  go_wp2
  refine bodyPost_ret (v := ratV (m1, m2, m3)) (by simp [results, Tryz.results60, go_sem, ratV, hc]) rfl ⟨by rw [← Hm.out], ?_⟩
  have hB : Below w.heap.size w w4 := ((((Below.refl _ _).alloc (Nat.le_refl _) _).alloc (by simp) _).alloc (by simp; omega) _).trans (hb4.mono (by simp; omega))
  exact (hB.setCell (by simp; omega) _).setCell (by simp; omega) _

set_option maxHeartbeats 2000000 in
theorem do_bad (s a b c d : Int) (w : World) (h : (vldB a b && vldB c d) = false) (a0 : -9223372036854775808 ≤ a) (a1 : a ≤ 9223372036854775807) (b0 : -9223372036854775808 ≤ b) (b1 : b ≤ 9223372036854775807) (c0 : -9223372036854775808 ≤ c) (c1 : c ≤ 9223372036854775807) (d0 : -9223372036854775808 ≤ d) (d1 : d ≤ 9223372036854775807) :
    Calls Tryz.prog 60 #[.int .i64 s, .agg #[.int .i64 a, .int .i64 b], .agg #[.int .i64 c, .int .i64 d]] w fun e w' => e = .returned (ratV (0, 0, 2)) ∧ Below w.heap.size w w' := by
  cases hx : vldB a b
  · have Hx := Lib.hid hx
    clear hx h
    go_enter Tryz.func60, Tryz.ntmps60
    go_wp2_with fail
    refine (valid_any a b _ a0 a1 b0 b1).mono ?_; rintro e w1 ⟨rfl, hb1⟩; rw [Hx.out]
    obtain ⟨hc, hf⟩ := bcell hb1
    have hz := hb1.size
    simp only [World.size_alloc] at hc hf hz
    go_wp2
    refine bodyPost_ret (v := ratV (0, 0, 2)) (by simp [results, Tryz.results60, go_sem, ratV, hc]) rfl ⟨rfl, ?_⟩
    have hB : Below w.heap.size w w1 := ((((Below.refl _ _).alloc (Nat.le_refl _) _).alloc (by simp) _).alloc (by simp; omega) _).trans (hb1.mono (by simp; omega))
    exact (hB.setCell (by simp; omega) _).setCell (by simp; omega) _
  · have hy : vldB c d = false := by rw [hx] at h; simpa using h
    have Hx := Lib.hid hx
    have Hy := Lib.hid hy
    clear hx hy h
    go_enter Tryz.func60, Tryz.ntmps60
    go_wp2_with fail
    refine (valid_any a b _ a0 a1 b0 b1).mono ?_; rintro e w1 ⟨rfl, hb1⟩; rw [Hx.out]
    obtain ⟨hc, hf⟩ := bcell hb1
    have hz := hb1.size
    simp only [World.size_alloc] at hc hf hz
    go_wp2_with fail
    refine (valid_any c d _ c0 c1 d0 d1).mono ?_; rintro e w2 ⟨rfl, hb2⟩; rw [Hy.out]
    replace hb2 := bnext hb1 hb2
    clear hc hf hz hb1
    obtain ⟨hc, hf⟩ := bcell hb2
    have hz := hb2.size
    simp only [World.size_alloc] at hc hf hz
    go_wp2
    refine bodyPost_ret (v := ratV (0, 0, 2)) (by simp [results, Tryz.results60, go_sem, ratV, hc]) rfl ⟨rfl, ?_⟩
    have hB : Below w.heap.size w w2 := ((((Below.refl _ _).alloc (Nat.le_refl _) _).alloc (by simp) _).alloc (by simp; omega) _).trans (hb2.mono (by simp; omega))
    exact (hB.setCell (by simp; omega) _).setCell (by simp; omega) _

set_option maxHeartbeats 2000000 in
theorem do_by_zero (a b d : Int) (w : World) (hx : vldB a b = true) (hy : vldB 0 d = true) :
    Calls Tryz.prog 60 #[.int .i64 3, .agg #[.int .i64 a, .int .i64 b], .agg #[.int .i64 0, .int .i64 d]] w fun e w' => e = .returned (ratV (0, 0, 2)) ∧ Below w.heap.size w w' := by
  obtain ⟨b0, b1, a0, a1, -⟩ := vld_bd hx
  obtain ⟨d0, d1, c0, c1, -⟩ := vld_bd hy
  have Hx := Lib.hid hx
  have Hy := Lib.hid hy
  clear hx hy
  go_enter Tryz.func60, Tryz.ntmps60
  go_wp2_with fail
  refine (valid_any a b _ (by omega) (by omega) (by omega) (by omega)).mono ?_; rintro e w1 ⟨rfl, hb1⟩; rw [Hx.out]
  obtain ⟨hc, hf⟩ := bcell hb1
  have hz := hb1.size
  simp only [World.size_alloc] at hc hf hz
  go_wp2_with fail
  refine (valid_any 0 d _ (by omega) (by omega) (by omega) (by omega)).mono ?_; rintro e w2 ⟨rfl, hb2⟩; rw [Hy.out]
  replace hb2 := bnext hb1 hb2
  clear hc hf hz hb1
  obtain ⟨hc, hf⟩ := bcell hb2
  have hz := hb2.size
  simp only [World.size_alloc] at hc hf hz
  go_wp2
  refine bodyPost_ret (v := ratV (0, 0, 2)) (by simp [results, Tryz.results60, go_sem, ratV, hc]) rfl ⟨rfl, ?_⟩
  have hB : Below w.heap.size w w2 := ((((Below.refl _ _).alloc (Nat.le_refl _) _).alloc (by simp) _).alloc (by simp; omega) _).trans (hb2.mono (by simp; omega))
  exact (hB.setCell (by simp; omega) _).setCell (by simp; omega) _

theorem do_add_any (a b c d : Int) (w : World) (a0 : -9223372036854775808 ≤ a) (a1 : a ≤ 9223372036854775807) (b0 : -9223372036854775808 ≤ b) (b1 : b ≤ 9223372036854775807) (c0 : -9223372036854775808 ≤ c) (c1 : c ≤ 9223372036854775807) (d0 : -9223372036854775808 ≤ d) (d1 : d ≤ 9223372036854775807) :
    Calls Tryz.prog 60 #[.int .i64 0, .agg #[.int .i64 a, .int .i64 b], .agg #[.int .i64 c, .int .i64 d]] w fun e w' => e = .returned (ratV (addN a b c d)) ∧ Below w.heap.size w w' := by
  unfold addN
  cases h : vldB a b && vldB c d
  · exact do_bad _ a b c d w h a0 a1 b0 b1 c0 c1 d0 d1
  · rw [Bool.and_eq_true] at h
    exact do_add a b c d w h.1 h.2
theorem do_sub_any (a b c d : Int) (w : World) (a0 : -9223372036854775808 ≤ a) (a1 : a ≤ 9223372036854775807) (b0 : -9223372036854775808 ≤ b) (b1 : b ≤ 9223372036854775807) (c0 : -9223372036854775808 ≤ c) (c1 : c ≤ 9223372036854775807) (d0 : -9223372036854775808 ≤ d) (d1 : d ≤ 9223372036854775807) :
    Calls Tryz.prog 60 #[.int .i64 1, .agg #[.int .i64 a, .int .i64 b], .agg #[.int .i64 c, .int .i64 d]] w fun e w' => e = .returned (ratV (subN a b c d)) ∧ Below w.heap.size w w' := by
  unfold subN
  cases h : vldB a b && vldB c d
  · exact do_bad _ a b c d w h a0 a1 b0 b1 c0 c1 d0 d1
  · rw [Bool.and_eq_true] at h
    exact do_sub a b c d w h.1 h.2
theorem do_mul_any (a b c d : Int) (w : World) (a0 : -9223372036854775808 ≤ a) (a1 : a ≤ 9223372036854775807) (b0 : -9223372036854775808 ≤ b) (b1 : b ≤ 9223372036854775807) (c0 : -9223372036854775808 ≤ c) (c1 : c ≤ 9223372036854775807) (d0 : -9223372036854775808 ≤ d) (d1 : d ≤ 9223372036854775807) :
    Calls Tryz.prog 60 #[.int .i64 2, .agg #[.int .i64 a, .int .i64 b], .agg #[.int .i64 c, .int .i64 d]] w fun e w' => e = .returned (ratV (mulN a b c d)) ∧ Below w.heap.size w w' := by
  unfold mulN
  cases h : vldB a b && vldB c d
  · exact do_bad _ a b c d w h a0 a1 b0 b1 c0 c1 d0 d1
  · rw [Bool.and_eq_true] at h
    exact do_mul a b c d w h.1 h.2
theorem do_div_any (a b c d : Int) (w : World) (a0 : -9223372036854775808 ≤ a) (a1 : a ≤ 9223372036854775807) (b0 : -9223372036854775808 ≤ b) (b1 : b ≤ 9223372036854775807) (c0 : -9223372036854775808 ≤ c) (c1 : c ≤ 9223372036854775807) (d0 : -9223372036854775808 ≤ d) (d1 : d ≤ 9223372036854775807) :
    Calls Tryz.prog 60 #[.int .i64 3, .agg #[.int .i64 a, .int .i64 b], .agg #[.int .i64 c, .int .i64 d]] w fun e w' => e = .returned (ratV (divN a b c d)) ∧ Below w.heap.size w w' := by
  unfold divN
  cases h : vldB a b && vldB c d
  · exact do_bad _ a b c d w h a0 a1 b0 b1 c0 c1 d0 d1
  · rw [Bool.and_eq_true] at h
    by_cases hc : c = 0
    · subst hc
      rw [Int.mul_zero, mk_zero]
      exact do_by_zero a b d w h.1 h.2
    · exact do_div a b c d w h.1 h.2 (by simpa using hc)
end Go.Proofs.YtbncfknjgldcbaaGreat.Ref
/- The reference's Good and Valid at every curve. -/
namespace Go.Proofs.YtbncfknjgldcbaaGreat.Ref
open Go.RowKit Go.Joins

set_option maxHeartbeats 400000 in
theorem good_any (n d : Int) (w : World) (n0 : -9223372036854775808 ≤ n) (n1 : n ≤ 9223372036854775807) (d0 : -9223372036854775808 ≤ d) (d1 : d ≤ 9223372036854775807) :
    Calls Tryz.prog 51 #[.agg #[.int .i64 n, .int .i64 d]] w fun e w' => e = .returned (.bool (amtB n d)) ∧ Below w.heap.size w w' := by
  unfold amtB
  obtain ⟨v, Hv⟩ : ∃ v, Hid (vldB n d = v) := ⟨_, rfl⟩
  have HV : Hid (∀ W : World, _) := fun W => valid_any n d W n0 n1 d0 d1
  rw [Hv.out] at HV ⊢
  cases v
  · rw [Bool.and_false]
    go_enter Tryz.func51, Tryz.ntmps51
    go_wp2_with fail
    refine (HV.out _).mono ?_; rintro e w1 ⟨rfl, hb1⟩
    have hx := (Has.new w n d 25).keep hb1
    have x0 := hx.c0
    have x1 := hx.c1
    have hB := Lib.hid (((Below.refl w.heap.size w).alloc (Nat.le_refl _) (.cells #[.int .i64 n, .int .i64 d] 25)).trans (hb1.mono (by simp)))
    clear hx hb1
    go_wp2
    go_ret
    exact ⟨rfl, hB.out⟩
  · rw [Bool.and_true]
    go_enter Tryz.func51, Tryz.ntmps51
    go_wp2_with fail
    refine (HV.out _).mono ?_; rintro e w1 ⟨rfl, hb1⟩
    have hx := (Has.new w n d 25).keep hb1
    have x0 := hx.c0
    have x1 := hx.c1
    have hB := Lib.hid (((Below.refl w.heap.size w).alloc (Nat.le_refl _) (.cells #[.int .i64 n, .int .i64 d] 25)).trans (hb1.mono (by simp)))
    clear hx hb1
    go_wp2
    go_ret
    exact ⟨rfl, hB.out⟩
end Go.Proofs.YtbncfknjgldcbaaGreat.Ref
/- The reference's operations of numbers that fit, and its value of a bucket. -/
namespace Go.Proofs.YtbncfknjgldcbaaGreat.Ref
open Go.RowKit Go.Joins Num

section
variable {r s : Rat} (hr : Fit r) (hs : Fit s) (w : World)
include hr hs
theorem add_r : Calls Tryz.prog 60 #[.int .i64 0, .agg #[.int .i64 r.num, .int .i64 r.den], .agg #[.int .i64 s.num, .int .i64 s.den]] w fun e w' => e = .returned (ratV (ofR (r + s))) ∧ Below w.heap.size w w' := by
  have h1 := fit_bd hr
  have h2 := fit_bd hs
  rw [← addN_r hr hs]
  exact do_add_any _ _ _ _ w (by omega) (by omega) (by omega) (by omega) (by omega) (by omega) (by omega) (by omega)
theorem sub_r : Calls Tryz.prog 60 #[.int .i64 1, .agg #[.int .i64 r.num, .int .i64 r.den], .agg #[.int .i64 s.num, .int .i64 s.den]] w fun e w' => e = .returned (ratV (ofR (r - s))) ∧ Below w.heap.size w w' := by
  have h1 := fit_bd hr
  have h2 := fit_bd hs
  rw [← subN_r hr hs]
  exact do_sub_any _ _ _ _ w (by omega) (by omega) (by omega) (by omega) (by omega) (by omega) (by omega) (by omega)
theorem mul_r : Calls Tryz.prog 60 #[.int .i64 2, .agg #[.int .i64 r.num, .int .i64 r.den], .agg #[.int .i64 s.num, .int .i64 s.den]] w fun e w' => e = .returned (ratV (ofR (r * s))) ∧ Below w.heap.size w w' := by
  have h1 := fit_bd hr
  have h2 := fit_bd hs
  rw [← mulN_r hr hs]
  exact do_mul_any _ _ _ _ w (by omega) (by omega) (by omega) (by omega) (by omega) (by omega) (by omega) (by omega)
theorem div_r (h0 : s ≠ 0) : Calls Tryz.prog 60 #[.int .i64 3, .agg #[.int .i64 r.num, .int .i64 r.den], .agg #[.int .i64 s.num, .int .i64 s.den]] w fun e w' => e = .returned (ratV (ofR (r / s))) ∧ Below w.heap.size w w' := by
  have h1 := fit_bd hr
  have h2 := fit_bd hs
  rw [← divN_r hr hs h0]
  exact do_div_any _ _ _ _ w (by omega) (by omega) (by omega) (by omega) (by omega) (by omega) (by omega) (by omega)
theorem cmp_r : Calls Tryz.prog 53 #[.agg #[.int .i64 r.num, .int .i64 r.den], .agg #[.int .i64 s.num, .int .i64 s.den]] w fun e w' => e = .returned (.int .i64 (cmpQ r s)) ∧ Below w.heap.size w w' := by
  have h1 := fit_bd hr
  have h2 := fit_bd hs
  unfold cmpQ
  rw [← cmpN_r hr hs]
  exact cmp_any _ _ _ _ w (by omega) (by omega) (by omega) (by omega) (by omega) (by omega) (by omega) (by omega)
end

set_option maxHeartbeats 1000000 in
theorem value_r {b r t : Rat} (hb : Fit b) (hr : Fit r) (ht : Fit t) (w : World) :
    Calls Tryz.prog 52 #[.agg #[.int .i64 b.num, .int .i64 b.den, .int .i64 r.num, .int .i64 r.den], .agg #[.int .i64 t.num, .int .i64 t.den]] w fun e w' => e = .returned (ratV (valV b r t)) ∧ Below w.heap.size w w' := by
  unfold valV
  have HM : ∀ W : World, _ := fun W => mul_r hr ht W
  by_cases hm : Fit (r * t)
  · rw [if_pos hm]
    rw [ofR_yes hm] at HM
    have HA : ∀ W : World, _ := fun W => add_r hb hm W
    have HM := Lib.hid HM
    have HA := Lib.hid HA
    generalize hq : ofR (b + r * t) = q at HA ⊢
    obtain ⟨q1, q2, q3⟩ := q
    clear hq hm
    generalize (r * t).num = m1 at HM HA
    generalize ((r * t).den : Int) = m2 at HM HA
    simp only [ratV] at HM HA ⊢
    go_enter Tryz.func52, Tryz.ntmps52
    go_wp2_with fail
    refine (HM.out _).mono ?_; rintro e w1 ⟨rfl, hb1⟩
    obtain ⟨hc, hf⟩ := bcell hb1
    have hz := hb1.size
    simp only [World.size_alloc] at hc hf hz
    have k0 : w.heap.size < w1.heap.size := by omega
    have k1 : w.heap.size + 1 < w1.heap.size := by omega
    go_wp2_with fail
    refine (HA.out _).mono ?_; rintro e w2 ⟨rfl, hb2⟩
    replace hb2 := below_allocs1 hb1 hb1.size hb2
    clear hc hf hb1 hz k0 k1
    obtain ⟨hc, hf⟩ := bcell hb2
    have hz := hb2.size
    simp only [World.size_alloc] at hc hf hz
    have hB : Below w.heap.size w w2 := ((((Below.refl _ w).alloc (Nat.le_refl _) _).alloc (by simp) _).alloc (by simp; omega) _).trans (hb2.mono (by simp; omega))
    go_wp2
    refine bodyPost_ret (v := ratV (q1, q2, q3)) (by simp [results, Tryz.results52, go_sem, ratV, hc]) rfl ⟨rfl, ?_⟩
    (have hBs := hB.size; (try simp only [World.size_alloc] at hBs); repeat' (first | (with_reducible exact hB) | (with_reducible exact hBs) | (with_reducible refine Below.drew ?_) | (with_reducible refine below_drewN ?_ _) | (with_reducible refine Below.setCell ?_ ?_ _) | (with_reducible refine Below.alloc ?_ ?_ _) | go_size | omega | (simp; omega)))
  · rw [if_neg hm]
    rw [ofR_no hm] at HM
    have HM := Lib.hid HM
    simp only [ratV] at HM ⊢
    go_enter Tryz.func52, Tryz.ntmps52
    go_wp2_with fail
    refine (HM.out _).mono ?_; rintro e w1 ⟨rfl, hb1⟩
    obtain ⟨hc, hf⟩ := bcell hb1
    have hz := hb1.size
    simp only [World.size_alloc] at hc hf hz
    have k2 : w.heap.size + 1 + 1 < w1.heap.size := by omega
    have hB : Below w.heap.size w w1 := ((((Below.refl _ w).alloc (Nat.le_refl _) _).alloc (by simp) _).alloc (by simp; omega) _).trans (hb1.mono (by simp; omega))
    go_wp2
    refine bodyPost_ret (v := ratV (0, 0, 3)) (by simp [results, Tryz.results52, go_sem, ratV, hc, k2]) rfl ⟨rfl, ?_⟩
    (have hBs := hB.size; (try simp only [World.size_alloc] at hBs); repeat' (first | (with_reducible exact hB) | (with_reducible exact hBs) | (with_reducible refine Below.drew ?_) | (with_reducible refine below_drewN ?_ _) | (with_reducible refine Below.setCell ?_ ?_ _) | (with_reducible refine Below.alloc ?_ ?_ _) | go_size | omega | (simp; omega)))
end Go.Proofs.YtbncfknjgldcbaaGreat.Ref
