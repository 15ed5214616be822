/- The walk of the law RatLowest: it returns true for every number, valid or not, and every uint16. -/
import Derived.Test.YtcngbipgnpjohaaDoorAwake
namespace Go.Proofs.YtcngbipgnpjohaaDoor.Lowest
open Go.RowKit Go.Joins

theorem natAbs_mul_div {n f : Int} (f0 : 0 < f) : ((n * f).natAbs : Int) / f = n.natAbs := by
  rw [Int.natAbs_mul, Int.natCast_mul, show (f.natAbs : Int) = f by omega, Int.mul_ediv_cancel _ (by omega)]
theorem gcd_mul {n d f : Int} (f0 : 0 < f) (h : Int.gcd n d = 1) : ((Int.gcd (n * f) (d * f) : Nat) : Int) = f := by
  rw [Int.gcd_mul_right, h]; omega
theorem mul_neg_iff {n f : Int} (f0 : 0 < f) : decide (n * f < 0) = decide (n < 0) := by
  rw [Bool.eq_iff_iff]
  simp only [decide_eq_true_eq]
  constructor
  · intro h; refine Int.not_le.1 fun h2 => ?_; have := Int.mul_nonneg h2 (Int.le_of_lt f0); omega
  · intro h; exact Int.mul_neg_of_neg_of_pos h f0
theorem low_a {n d f : Int} (h : vldB n d = true) (f0 : 0 < f) : mkN (n * f) (d * f) = (n, d, 0) := by
  obtain ⟨d0, d1, n0, n1, hg⟩ := vld_bd h
  have hz : d * f ≠ 0 := by have := Int.mul_pos (show 0 < d by omega) f0; omega
  have e1 : ((n * f).natAbs : Int) / ((Int.gcd (n * f) (d * f) : Nat) : Int) = n.natAbs := by rw [gcd_mul f0 hg, natAbs_mul_div f0]
  have e2 : ((d * f).natAbs : Int) / ((Int.gcd (n * f) (d * f) : Nat) : Int) = d.natAbs := by rw [gcd_mul f0 hg, natAbs_mul_div f0]
  rw [mk_fits hz e1.symm e2.symm (by omega) (by omega), mul_neg_iff f0, mul_neg_iff f0, show decide (d < 0) = false by simp; omega]
  by_cases hn : n < 0
  · simp [hn]; omega
  · simp [hn]; omega
theorem low_b {n d f : Int} (h : vldB n d = true) (f0 : 0 < f) : mkN (-n * f) (-d * f) = (n, d, 0) := by
  obtain ⟨d0, d1, n0, n1, hg⟩ := vld_bd h
  have hg' : Int.gcd (-n) (-d) = 1 := by simpa using hg
  have hz : -d * f ≠ 0 := by have := Int.mul_neg_of_neg_of_pos (show -d < 0 by omega) f0; omega
  have e1 : ((-n * f).natAbs : Int) / ((Int.gcd (-n * f) (-d * f) : Nat) : Int) = n.natAbs := by rw [gcd_mul f0 hg', natAbs_mul_div f0]; omega
  have e2 : ((-d * f).natAbs : Int) / ((Int.gcd (-n * f) (-d * f) : Nat) : Int) = d.natAbs := by rw [gcd_mul f0 hg', natAbs_mul_div f0]; omega
  rw [mk_fits hz e1.symm e2.symm (by omega) (by omega), mul_neg_iff f0, mul_neg_iff f0, show decide (-d < 0) = true by simp; omega]
  by_cases hn : 0 < n
  · simp [hn]; omega
  · simp [hn]; omega
theorem low_c {n d : Int} (h : vldB n d = false) : addN n d 0 1 = (0, 0, 2) := by unfold addN; simp [h]
theorem mulb2 {a f : Int} (a0 : -1073741824 ≤ a) (a1 : a ≤ 1073741824) (f0 : 0 < f) (f1 : f ≤ 1000) : -1073741824000 ≤ a * f ∧ a * f ≤ 1073741824000 := by
  have h : (a * f).natAbs ≤ 1073741824 * 1000 := by rw [Int.natAbs_mul]; exact Nat.mul_le_mul (by omega) (by omega)
  omega

set_option maxHeartbeats 4000000 in
set_option maxRecDepth 100000 in
theorem walk (n d k : Int) (w : World) (he : Env w) (n0 : -9223372036854775808 ≤ n) (n1 : n ≤ 9223372036854775807) (d0 : -9223372036854775808 ≤ d) (d1 : d ≤ 9223372036854775807) (k0 : 0 ≤ k) (k1 : k ≤ 65535) :
    Calls Tryd.prog 5 #[.agg #[.int .i64 n, .int .i64 d], .int .u16 k] w fun e w' => e = .returned (.bool true) ∧ Below w.heap.size w w' := by
  have f0 : 0 ≤ k % 1000 := by omega
  have f1 : k % 1000 < 1000 := by omega
  have st := (Sts.start he).new n d 23
  clear he
  obtain ⟨b2, hb2⟩ : ∃ b, b = w.heap.size := ⟨_, rfl⟩
  have HB2 := Lib.hid hb2
  rw [← hb2] at st
  clear hb2
  cases hv : vldB n d
  · have hc := low_c hv
    have HV := Lib.hid hv
    have HC := Lib.hid hc
    clear hv hc
    go_enter Tryd.func5, Tryd.ntmps5
    go_wp2_with fail
    rw [← HB2.out]
    refine (valid_any n d _ n0 n1 d0 d1).mono ?_; rintro e w1 ⟨rfl, hb⟩; rw [HV.out]
    replace st := st.keep hb
    clear hb
    obtain ⟨l2, x2, y2⟩ := st.get b2 n d (by simp)
    go_wp2_with fail
    refine (add_any n d 0 1 _ n0 n1 d0 d1 (by decide) (by decide) (by decide) (by decide)).mono ?_; rintro e w2 ⟨rfl, hb⟩; rw [HC.out]
    simp only [ratV]
    replace st := st.keep hb
    clear hb l2 x2 y2
    go_wp2_with fail
    refine (awake_any _ (st.new 0 0 23).e).mono ?_; rintro e w3 ⟨rfl, hb⟩
    replace st := (st.new 0 0 23).keep hb
    clear hb
    go_wp2
    go_ret
    exact ⟨rfl, st.b⟩
  · obtain ⟨v0, v1, v2, v3, -⟩ := vld_bd hv
    have ha := low_a hv (f := 1 + k % 1000) (by omega)
    have hb := low_b hv (f := 1 + k % 1000) (by omega)
    obtain ⟨q1, q2⟩ := mulb2 (a := n) (f := 1 + k % 1000) v2 v3 (by omega) (by omega)
    obtain ⟨q3, q4⟩ := mulb2 (a := d) (f := 1 + k % 1000) (by omega) v1 (by omega) (by omega)
    obtain ⟨q5, q6⟩ := mulb2 (a := -n) (f := 1 + k % 1000) (by omega) (by omega) (by omega) (by omega)
    obtain ⟨q7, q8⟩ := mulb2 (a := -d) (f := 1 + k % 1000) (by omega) (by omega) (by omega) (by omega)
    have HV := Lib.hid hv
    have HA := Lib.hid ha
    have HB := Lib.hid hb
    clear hv ha hb
    go_enter Tryd.func5, Tryd.ntmps5
    go_wp2_with fail
    rw [← HB2.out]
    refine (valid_any n d _ n0 n1 d0 d1).mono ?_; rintro e w1 ⟨rfl, hb⟩; rw [HV.out]
    replace st := st.keep hb
    clear hb
    obtain ⟨l2, x2, y2⟩ := st.get b2 n d (by simp)
    go_wp2_with fail
    refine (make_any _ _ _ (by omega) (by omega) (by omega) (by omega)).mono ?_; rintro e w2 ⟨rfl, hb⟩; rw [HA.out]
    simp only [ratV]
    replace st := st.keep hb
    clear hb l2 x2 y2
    obtain ⟨l2, x2, y2⟩ := st.get b2 n d (by simp)
    go_wp2_with fail
    refine (make_any _ _ _ (by omega) (by omega) (by omega) (by omega)).mono ?_; rintro e w3 ⟨rfl, hb⟩
    rw [HB.out]
    simp only [ratV]
    replace st := (st.new n d 23).keep hb
    clear hb l2 x2 y2
    generalize w2.heap.size = b8 at st ⊢
    obtain ⟨l2, x2, y2⟩ := st.get b2 n d (by simp)
    obtain ⟨l8, x8, y8⟩ := st.get b8 n d (by simp)
    go_wp2_with fail
    refine (awake_any _ (st.new n d 23).e).mono ?_; rintro e w4 ⟨rfl, hb⟩
    replace st := (st.new n d 23).keep hb
    clear hb l2 x2 y2 l8 x8 y8
    go_wp2
    go_ret
    exact ⟨rfl, st.b⟩
end Go.Proofs.YtcngbipgnpjohaaDoor.Lowest
