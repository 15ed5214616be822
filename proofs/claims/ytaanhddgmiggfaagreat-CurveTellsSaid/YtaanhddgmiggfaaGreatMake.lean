/- The contract of rat.Make: at every two ints it returns the number in lowest terms, or the error of the chapter. -/
import Derived.Test.YtaanhddgmiggfaaGreatGcd
namespace Go.Proofs.YtaanhddgmiggfaaGreat
open Go.RowKit

/-- What Make returns: numerator, denominator, error. -/
def mkN (n d : Int) : Int × Int × Int :=
  if d = 0 then (0, 0, 2)
  else
    let g : Int := Int.gcd n d
    let a : Int := n.natAbs / g
    let b : Int := d.natAbs / g
    if a > 1073741824 ∨ b > 1073741824 then (0, 0, 3)
    else if decide (n < 0) != decide (d < 0) then (-a, b, 0) else (a, b, 0)

def ratV (x : Int × Int × Int) : Value := .tuple #[.agg #[.int .i64 x.1, .int .i64 x.2.1], .int .i64 x.2.2]

theorem mk_zero (n : Int) : mkN n 0 = (0, 0, 2) := by simp [mkN]
theorem mk_long {n d a b : Int} (hd : d ≠ 0) (ha : a = n.natAbs / (Int.gcd n d : Int)) (hb : b = d.natAbs / (Int.gcd n d : Int)) (h : a > 1073741824 ∨ b > 1073741824) : mkN n d = (0, 0, 3) := by
  subst ha hb; simp only [mkN]; rw [if_neg hd, if_pos h]
theorem mk_fits {n d a b : Int} (hd : d ≠ 0) (ha : a = n.natAbs / (Int.gcd n d : Int)) (hb : b = d.natAbs / (Int.gcd n d : Int)) (h1 : ¬ a > 1073741824) (h2 : ¬ b > 1073741824) :
    mkN n d = (if decide (n < 0) != decide (d < 0) then -a else a, b, 0) := by
  subst ha hb; simp only [mkN]; rw [if_neg hd, if_neg (by omega)]; split <;> rfl

set_option maxHeartbeats 1000000 in
theorem make_any (n d : Int) (w : World) (n0 : -9223372036854775808 ≤ n) (n1 : n ≤ 9223372036854775807) (d0 : -9223372036854775808 ≤ d) (d1 : d ≤ 9223372036854775807) :
    Calls Tryz.prog 44 #[.int .i64 n, .int .i64 d] w fun e w' => e = .returned (ratV (mkN n d)) ∧ Below w.heap.size w w' := by
  by_cases hd : d = 0
  · subst hd
    rw [mk_zero]
    go_enter Tryz.func44, Tryz.ntmps44
    go_wp2
    go_returns
    exact ⟨rfl, by go_grown⟩
  have hz : (d == 0) = false := by simpa using hd
  obtain ⟨a, ha⟩ : ∃ a : Int, a = n.natAbs := ⟨_, rfl⟩
  obtain ⟨b, hb⟩ : ∃ b : Int, b = d.natAbs := ⟨_, rfl⟩
  obtain ⟨g, hg⟩ : ∃ g : Int, g = (Int.gcd n d : Nat) := ⟨_, rfl⟩
  have g0 : 0 < g := by
    have : 0 < Int.gcd n d := Int.gcd_pos_of_ne_zero_right n hd
    omega
  have hga : Int.gcd a b = Int.gcd n d := by subst ha hb; simp [Int.gcd]
  have a0 : 0 ≤ a := by omega
  have b0 : 0 ≤ b := by omega
  have a1 : a ≤ 9223372036854775808 := by omega
  have b1 : b ≤ 9223372036854775808 := by omega
  have qa0 : 0 ≤ a / g := Int.ediv_nonneg a0 (by omega)
  have qb0 : 0 ≤ b / g := Int.ediv_nonneg b0 (by omega)
  have g1 : g ≤ 18446744073709551615 := by
    have h1 : Int.gcd n d ∣ d.natAbs := Int.gcd_dvd_natAbs_right n d
    have h2 := Nat.le_of_dvd (by omega) h1
    omega
  have gz : (g == 0) = false := by simp; omega
  have eqa : a / g = n.natAbs / (Int.gcd n d : Int) := by rw [ha, hg]
  have eqb : b / g = d.natAbs / (Int.gcd n d : Int) := by rw [hb, hg]
  have Ha := Lib.hid ha
  have Hb := Lib.hid hb
  have Hg := Lib.hid hg
  have Hga := Lib.hid hga
  clear ha hb hg hga
  by_cases h1 : a / g > 1073741824
  · rw [mk_long hd eqa eqb (Or.inl h1)]
    clear eqa eqb
    go_enter Tryz.func44, Tryz.ntmps44
    go_wp2_with fail
    refine (mag _ _ n0 n1).mono ?_; rintro e w1 ⟨rfl, rfl⟩; rw [← Ha.out]
    go_wp2_with fail
    refine (mag _ _ d0 d1).mono ?_; rintro e w1 ⟨rfl, rfl⟩; rw [← Hb.out]
    go_wp2_with fail
    refine (gcdU _ _ _ a0 b0 (by omega) (by omega)).mono ?_; rintro e w1 ⟨rfl, j, rfl⟩; rw [Hga.out, ← Hg.out]
    go_wp2_with fail
    go_quiet (fail)
    go_wp2
    go_returns
    refine ⟨by simp only [ratV]; try rfl, ?_⟩; (repeat' (first | (with_reducible exact Below.refl _ _) | (with_reducible refine below_drewN ?_ _) | (with_reducible refine Below.drew ?_) | (with_reducible refine Below.setCell ?_ ?_ _) | (with_reducible refine Below.alloc ?_ ?_ _) | go_size))
  by_cases h2 : b / g > 1073741824
  · rw [mk_long hd eqa eqb (Or.inr h2)]
    clear eqa eqb
    go_enter Tryz.func44, Tryz.ntmps44
    go_wp2_with fail
    refine (mag _ _ n0 n1).mono ?_; rintro e w1 ⟨rfl, rfl⟩; rw [← Ha.out]
    go_wp2_with fail
    refine (mag _ _ d0 d1).mono ?_; rintro e w1 ⟨rfl, rfl⟩; rw [← Hb.out]
    go_wp2_with fail
    refine (gcdU _ _ _ a0 b0 (by omega) (by omega)).mono ?_; rintro e w1 ⟨rfl, j, rfl⟩; rw [Hga.out, ← Hg.out]
    go_wp2_with fail
    go_quiet (fail)
    go_wp2
    go_returns
    refine ⟨by simp only [ratV]; try rfl, ?_⟩; (repeat' (first | (with_reducible exact Below.refl _ _) | (with_reducible refine below_drewN ?_ _) | (with_reducible refine Below.drew ?_) | (with_reducible refine Below.setCell ?_ ?_ _) | (with_reducible refine Below.alloc ?_ ?_ _) | go_size))
  rw [mk_fits hd eqa eqb h1 h2]
  clear eqa eqb
  rcases Bool.eq_false_or_eq_true (decide (n < 0)) with hn | hn <;> rcases Bool.eq_false_or_eq_true (decide (d < 0)) with hm | hm
  all_goals
    simp only [hn, hm, bne_self_eq_false, if_true, if_false, Bool.false_eq_true, Bool.true_bne, Bool.false_bne, Bool.not_false]
    have hs : (!decide (n < 0) == decide (d < 0)) = (!(decide (n < 0) == decide (d < 0))) := rfl
    rw [hn, hm] at hs
    go_enter Tryz.func44, Tryz.ntmps44
    go_wp2_with fail
    refine (mag _ _ n0 n1).mono ?_; rintro e w1 ⟨rfl, rfl⟩; rw [← Ha.out]
    go_wp2_with fail
    refine (mag _ _ d0 d1).mono ?_; rintro e w1 ⟨rfl, rfl⟩; rw [← Hb.out]
    go_wp2_with fail
    refine (gcdU _ _ _ a0 b0 (by omega) (by omega)).mono ?_; rintro e w1 ⟨rfl, j, rfl⟩; rw [Hga.out, ← Hg.out]
    go_wp2_with fail
    go_quiet (fail)
    go_wp2
    go_returns
    refine ⟨by simp only [ratV]; try rfl, ?_⟩; (repeat' (first | (with_reducible exact Below.refl _ _) | (with_reducible refine below_drewN ?_ _) | (with_reducible refine Below.drew ?_) | (with_reducible refine Below.setCell ?_ ?_ _) | (with_reducible refine Below.alloc ?_ ?_ _) | go_size))
end Go.Proofs.YtaanhddgmiggfaaGreat
