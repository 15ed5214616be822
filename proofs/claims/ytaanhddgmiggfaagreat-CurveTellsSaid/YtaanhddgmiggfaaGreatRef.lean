/- The contracts of the reference of layer 1: the same functions of the same numbers. -/
import Derived.Test.YtaanhddgmiggfaaGreatBasic
import Derived.Lib.SmallJoins
import Derived.Test.YtaanhddgmiggfaaGreatCls
namespace Go.Proofs.YtaanhddgmiggfaaGreat.Ref
open Go.RowKit Go.Joins

/-- The absolute value as an unsigned number, of every int. -/
theorem size_any (n : Int) (w : World) (n0 : -9223372036854775808 ≤ n) (n1 : n ≤ 9223372036854775807) :
    Calls Tryz.prog 124 #[.int .i64 n] w fun e w' => e = .returned (.int .u64 (n.natAbs : Nat)) ∧ w' = w := by
  by_cases h : n < 0
  · go_enter Tryz.func124, Tryz.ntmps124
    go_wp2
    go_ret
    refine ⟨ret_int ?_, rfl⟩
    go_arith
  · go_enter Tryz.func124, Tryz.ntmps124
    go_wp2
    go_ret
    exact ⟨ret_int (by omega), rfl⟩

set_option maxHeartbeats 400000 in
theorem gcd_rec : ∀ (k : Nat) (a b : Int) (w : World), b.toNat ≤ k → 0 ≤ a → 0 ≤ b → a ≤ 18446744073709551615 → b ≤ 18446744073709551615 →
    Calls Tryz.prog 123 #[.int .u64 a, .int .u64 b] w fun e w' => e = .returned (.int .u64 (Int.gcd a b : Nat)) ∧ w' = w := by
  intro k
  induction k with
  | zero =>
    intro a b w hk a0 b0 a1 b1
    have hb : b = 0 := by omega
    subst hb
    go_enter Tryz.func123, Tryz.ntmps123
    go_wp2
    go_ret
    exact ⟨ret_int (by rw [Int.gcd_zero_right]; omega), rfl⟩
  | succ k ih =>
    intro a b w hk a0 b0 a1 b1
    have IH := Lib.hid ih
    clear ih
    by_cases hb : b = 0
    · subst hb
      go_enter Tryz.func123, Tryz.ntmps123
      go_wp2
      go_ret
      exact ⟨ret_int (by rw [Int.gcd_zero_right]; omega), rfl⟩
    · have hbp : 0 < b := by omega
      have hz : (b == 0) = false := by simpa using hb
      have m0 : 0 ≤ a % b := Int.emod_nonneg _ hb
      have m1 : a % b < b := Int.emod_lt_of_pos _ hbp
      have hs := Lib.hid (gcd_step a b hbp a0)
      go_enter Tryz.func123, Tryz.ntmps123
      go_wp2_with fail
      refine (IH.out b (a % b) _ (by omega) b0 m0 b1 (by omega)).mono ?_; rintro e w1 ⟨rfl, rfl⟩; rw [hs.out]
      go_wp2
      go_ret
      exact ⟨rfl, rfl⟩
theorem gcd_any (a b : Int) (w : World) (a0 : 0 ≤ a) (b0 : 0 ≤ b) (a1 : a ≤ 18446744073709551615) (b1 : b ≤ 18446744073709551615) :
    Calls Tryz.prog 123 #[.int .u64 a, .int .u64 b] w fun e w' => e = .returned (.int .u64 (Int.gcd a b : Nat)) ∧ w' = w := gcd_rec _ a b w (Nat.le_refl _) a0 b0 a1 b1

set_option maxHeartbeats 2000000 in
theorem valid_any (n d : Int) (w : World) (n0 : -9223372036854775808 ≤ n) (n1 : n ≤ 9223372036854775807) (d0 : -9223372036854775808 ≤ d) (d1 : d ≤ 9223372036854775807) :
    Calls Tryz.prog 88 #[.agg #[.int .i64 n, .int .i64 d]] w fun e w' => e = .returned (.bool (vldB n d)) ∧ Below w.heap.size w w' := by
  by_cases h1 : d < 1
  · have g1 : decide (1 ≤ d) = false := by simp; omega
    rw [vld_no (by omega)]
    go_enter Tryz.func88, Tryz.ntmps88
    go_wp2_with fail
    go_quiet (fail)
    go_wp2
    go_ret
    exact ⟨rfl, by (repeat' (first | (with_reducible exact Below.refl _ _) | (with_reducible refine below_drewN ?_ _) | (with_reducible refine Below.drew ?_) | (with_reducible refine Below.setCell ?_ ?_ _) | (with_reducible refine Below.alloc ?_ ?_ _) | go_size))⟩
  have g1 : decide (1 ≤ d) = true := by simp; omega
  by_cases h2 : d > 1073741824
  · have g2 : decide (d ≤ 1073741824) = false := by simp; omega
    rw [vld_no (by omega)]
    go_enter Tryz.func88, Tryz.ntmps88
    go_wp2_with fail
    go_quiet (fail)
    go_wp2
    go_ret
    exact ⟨rfl, by (repeat' (first | (with_reducible exact Below.refl _ _) | (with_reducible refine below_drewN ?_ _) | (with_reducible refine Below.drew ?_) | (with_reducible refine Below.setCell ?_ ?_ _) | (with_reducible refine Below.alloc ?_ ?_ _) | go_size))⟩
  have g2 : decide (d ≤ 1073741824) = true := by simp; omega
  by_cases h3 : n < -1073741824
  · have g3 : decide (-1073741824 ≤ n) = false := by simp; omega
    rw [vld_no (by omega)]
    go_enter Tryz.func88, Tryz.ntmps88
    go_wp2_with fail
    go_quiet (fail)
    go_wp2
    go_ret
    exact ⟨rfl, by (repeat' (first | (with_reducible exact Below.refl _ _) | (with_reducible refine below_drewN ?_ _) | (with_reducible refine Below.drew ?_) | (with_reducible refine Below.setCell ?_ ?_ _) | (with_reducible refine Below.alloc ?_ ?_ _) | go_size))⟩
  have g3 : decide (-1073741824 ≤ n) = true := by simp; omega
  by_cases h4 : n > 1073741824
  · have g4 : decide (n ≤ 1073741824) = false := by simp; omega
    rw [vld_no (by omega)]
    go_enter Tryz.func88, Tryz.ntmps88
    go_wp2_with fail
    go_quiet (fail)
    go_wp2
    go_ret
    exact ⟨rfl, by (repeat' (first | (with_reducible exact Below.refl _ _) | (with_reducible refine below_drewN ?_ _) | (with_reducible refine Below.drew ?_) | (with_reducible refine Below.setCell ?_ ?_ _) | (with_reducible refine Below.alloc ?_ ?_ _) | go_size))⟩
  have g4 : decide (n ≤ 1073741824) = true := by simp; omega
  rw [vld_in (by omega) (by omega) (by omega) (by omega)]
  obtain ⟨a, ha⟩ : ∃ a : Int, a = n.natAbs := ⟨_, rfl⟩
  obtain ⟨q, hq⟩ : ∃ q, ((Int.gcd a d : Nat) : Int) = q := ⟨_, rfl⟩
  have a0 : 0 ≤ a := by omega
  have a1 : a ≤ 1073741824 := by omega
  have hga : Int.gcd a d = Int.gcd n d := by rw [ha]; simp [Int.gcd]
  have hr : decide (Int.gcd n d = 1) = (q == 1) := by rw [← hga, Bool.eq_iff_iff]; simp; omega
  have sz : ∀ W : World, Calls Tryz.prog 124 #[.int .i64 n] W fun e w' => e = .returned (.int .u64 a) ∧ w' = W := fun W => by rw [ha]; exact size_any n W n0 n1
  have gc : ∀ W : World, Calls Tryz.prog 123 #[.int .u64 a, .int .u64 d] W fun e w' => e = .returned (.int .u64 q) ∧ w' = W := fun W => by rw [← hq]; exact gcd_any a d W a0 (by omega) (by omega) (by omega)
  rw [hr]
  have SZ := Lib.hid sz
  have GC := Lib.hid gc
  clear ha hq hga hr sz gc
  go_enter Tryz.func88, Tryz.ntmps88
  go_wp2_with fail
  go_quiet ((first
    | (go_at_call 124; exact Calls.quiet_of_same (SZ.out _))
    | (go_at_call 123; exact Calls.quiet_of_same (GC.out _))))
  go_wp2
  go_ret
  exact ⟨rfl, by (repeat' (first | (with_reducible exact Below.refl _ _) | (with_reducible refine below_drewN ?_ _) | (with_reducible refine Below.drew ?_) | (with_reducible refine Below.setCell ?_ ?_ _) | (with_reducible refine Below.alloc ?_ ?_ _) | go_size))⟩
end Go.Proofs.YtaanhddgmiggfaaGreat.Ref
