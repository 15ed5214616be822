/- Merged texts: CRRound. -/
import Derived.Test.YtbncfknjgldcbaaGreatM9
import Derived.Test.YtbncfknjgldcbaaGreatM5
/- The contracts of the reference of layer 1: Floor and Ceil, whose loops make one round at most. -/
namespace Go.Proofs.YtbncfknjgldcbaaGreat.Ref
open Go.RowKit Go.Joins

def gtI (x y : Int) : Prop := x > y
def ltI (x y : Int) : Prop := x < y

set_option maxHeartbeats 2000000 in
theorem floor_any (a b : Int) (w : World) (a0 : -9223372036854775808 ≤ a) (a1 : a ≤ 9223372036854775807) (b0 : -9223372036854775808 ≤ b) (b1 : b ≤ 9223372036854775807) :
    Calls Tryz.prog 114 #[.agg #[.int .i64 a, .int .i64 b]] w fun e w' => e = .returned (.int .i64 (floorN a b)) ∧ Below w.heap.size w w' := by
  unfold floorN
  cases hx : vldB a b
  · have Hx := Lib.hid hx
    clear hx
    simp only [Bool.false_eq_true, if_false]
    go_enter Tryz.func114, Tryz.ntmps114
    go_wp2_with fail
    refine (valid_any a b _ a0 a1 b0 b1).mono ?_; rintro e w1 ⟨rfl, hb1⟩; rw [Hx.out]
    go_wp2
    go_ret
    exact ⟨rfl, ((Below.refl _ _).alloc (Nat.le_refl _) _).trans (hb1.mono (by simp))⟩
  obtain ⟨b2, b3, a2, a3, -⟩ := vld_bd hx
  have Hx := Lib.hid hx
  clear hx
  simp only [if_true]
  have hbz : (b == 0) = false := by simp; omega
  have q := tdiv_floor a b (by omega)
  obtain ⟨q1, q2⟩ := tdiv_bd (d := b) a2 a3
  have f1 := Int.mul_tdiv_add_tmod a b
  rw [Int.mul_comm] at f1
  have f2 : a.tmod b < b := Int.tmod_lt_of_pos a (by omega)
  have f3 : -b < a.tmod b := Int.lt_tmod_of_pos a (by omega)
  have f4 : (a.tdiv b - 1) * b = a.tdiv b * b - b := by rw [Int.sub_mul]; omega
  by_cases ha : 0 ≤ a
  · rw [Int.tdiv_eq_ediv_of_nonneg ha] at q q1 q2 f1 f4
    rw [Int.tmod_eq_emod_of_nonneg ha] at q f1 f2 f3
    have m0 : 0 ≤ a % b := Int.emod_nonneg _ (by omega)
    have q0 : 0 ≤ a / b := Int.ediv_nonneg ha (by omega)
    have q3 : a / b * b ≤ a := by omega
    have q4 : -1073741824 ≤ a / b * b := by omega
    have hcase : ¬ gtI (a / b * b) a := by unfold gtI; omega
    clear q f1 f2 f3 f4
    have c1 := hcase
    clear hcase
    all_goals
      unfold gtI at c1
      go_enter Tryz.func114, Tryz.ntmps114
      go_wp2_with fail
      refine (valid_any a b _ a0 a1 b0 b1).mono ?_; rintro e w1 ⟨rfl, hb1⟩; rw [Hx.out]
      obtain ⟨hc, hf⟩ := bcell hb1
      simp only [World.size_alloc] at hc hf
      go_wp2
      go_rounds 2
      go_ret
      exact ⟨ret_int rfl, ((Below.refl _ _).alloc (Nat.le_refl _) _).trans (hb1.mono (by simp))⟩
  · have q3 : -1073741824 ≤ a.tdiv b * b ∧ a.tdiv b * b ≤ 1073741824 := by
      have h : (a.tdiv b * b).natAbs ≤ a.natAbs := by rw [Int.natAbs_mul, Int.natAbs_tdiv]; exact Nat.div_mul_le_self _ _
      omega
    have q4 := q3.1
    have q5 := q3.2
    have hcase : (gtI (a.tdiv b * b) a ∧ -9223372036854775808 ≤ (a.tdiv b - 1) * b ∧ (a.tdiv b - 1) * b ≤ 9223372036854775807 ∧ ¬ gtI ((a.tdiv b - 1) * b) a ∧ a / b = a.tdiv b - 1) ∨ (¬ gtI (a.tdiv b * b) a ∧ a / b = a.tdiv b) := by
      unfold gtI
      by_cases hc : a.tmod b < 0
      · rw [if_pos hc] at q; exact Or.inl ⟨by omega, by omega, by omega, by omega, q⟩
      · rw [if_neg hc] at q; exact Or.inr ⟨by omega, q⟩
    clear q f1 f2 f3 f4 q3
    rcases hcase with ⟨c1, c2, c3, c4, c5⟩ | ⟨c1, c5⟩
    all_goals
      unfold gtI at c1
      try unfold gtI at c4
      have C5 := Lib.hid c5
      clear c5
      go_enter Tryz.func114, Tryz.ntmps114
      go_wp2_with fail
      refine (valid_any a b _ a0 a1 b0 b1).mono ?_; rintro e w1 ⟨rfl, hb1⟩; rw [Hx.out]
      obtain ⟨hc, hf⟩ := bcell hb1
      simp only [World.size_alloc] at hc hf
      go_wp2
      go_rounds 2
      go_ret
      exact ⟨ret_int (C5.out.symm), ((Below.refl _ _).alloc (Nat.le_refl _) _).trans (hb1.mono (by simp))⟩

set_option maxHeartbeats 2000000 in
theorem ceil_any (a b : Int) (w : World) (a0 : -9223372036854775808 ≤ a) (a1 : a ≤ 9223372036854775807) (b0 : -9223372036854775808 ≤ b) (b1 : b ≤ 9223372036854775807) :
    Calls Tryz.prog 115 #[.agg #[.int .i64 a, .int .i64 b]] w fun e w' => e = .returned (.int .i64 (ceilN a b)) ∧ Below w.heap.size w w' := by
  unfold ceilN
  cases hx : vldB a b
  · have Hx := Lib.hid hx
    clear hx
    simp only [Bool.false_eq_true, if_false]
    go_enter Tryz.func115, Tryz.ntmps115
    go_wp2_with fail
    refine (valid_any a b _ a0 a1 b0 b1).mono ?_; rintro e w1 ⟨rfl, hb1⟩; rw [Hx.out]
    go_wp2
    go_ret
    exact ⟨rfl, ((Below.refl _ _).alloc (Nat.le_refl _) _).trans (hb1.mono (by simp))⟩
  obtain ⟨b2, b3, a2, a3, -⟩ := vld_bd hx
  have Hx := Lib.hid hx
  clear hx
  simp only [if_true]
  have hbz : (b == 0) = false := by simp; omega
  have q := tdiv_ceil a b (by omega)
  obtain ⟨q1, q2⟩ := tdiv_bd (d := b) a2 a3
  have f1 := Int.mul_tdiv_add_tmod a b
  rw [Int.mul_comm] at f1
  have f2 : a.tmod b < b := Int.tmod_lt_of_pos a (by omega)
  have f3 : -b < a.tmod b := Int.lt_tmod_of_pos a (by omega)
  have f4 : (a.tdiv b + 1) * b = a.tdiv b * b + b := by rw [Int.add_mul]; omega
  by_cases ha : 0 ≤ a
  · rw [Int.tdiv_eq_ediv_of_nonneg ha] at q q1 q2 f1 f4
    rw [Int.tmod_eq_emod_of_nonneg ha] at q f1 f2 f3
    have m0 : 0 ≤ a % b := Int.emod_nonneg _ (by omega)
    have q0 : 0 ≤ a / b := Int.ediv_nonneg ha (by omega)
    have q3 : a / b * b ≤ a := by omega
    have q4 : -1073741824 ≤ a / b * b := by omega
    have hcase : (ltI (a / b * b) a ∧ -9223372036854775808 ≤ (a / b + 1) * b ∧ (a / b + 1) * b ≤ 9223372036854775807 ∧ ¬ ltI ((a / b + 1) * b) a ∧ -(-a / b) = a / b + 1) ∨ (¬ ltI (a / b * b) a ∧ -(-a / b) = a / b) := by
      unfold ltI
      by_cases hc : a % b > 0
      · rw [if_pos hc] at q; exact Or.inl ⟨by omega, by omega, by omega, by omega, q⟩
      · rw [if_neg hc] at q; exact Or.inr ⟨by omega, q⟩
    clear q f1 f2 f3 f4
    rcases hcase with ⟨c1, c2, c3, c4, c5⟩ | ⟨c1, c5⟩
    all_goals
      unfold ltI at c1
      try unfold ltI at c4
      have C5 := Lib.hid c5
      clear c5
      go_enter Tryz.func115, Tryz.ntmps115
      go_wp2_with fail
      refine (valid_any a b _ a0 a1 b0 b1).mono ?_; rintro e w1 ⟨rfl, hb1⟩; rw [Hx.out]
      obtain ⟨hc, hf⟩ := bcell hb1
      simp only [World.size_alloc] at hc hf
      go_wp2
      go_rounds 2
      go_ret
      exact ⟨ret_int (C5.out.symm), ((Below.refl _ _).alloc (Nat.le_refl _) _).trans (hb1.mono (by simp))⟩
  · have q3 : -1073741824 ≤ a.tdiv b * b ∧ a.tdiv b * b ≤ 1073741824 := by
      have h : (a.tdiv b * b).natAbs ≤ a.natAbs := by rw [Int.natAbs_mul, Int.natAbs_tdiv]; exact Nat.div_mul_le_self _ _
      omega
    have q4 := q3.1
    have q5 := q3.2
    have hcase : (ltI (a.tdiv b * b) a ∧ -9223372036854775808 ≤ (a.tdiv b + 1) * b ∧ (a.tdiv b + 1) * b ≤ 9223372036854775807 ∧ ¬ ltI ((a.tdiv b + 1) * b) a ∧ -(-a / b) = a.tdiv b + 1) ∨ (¬ ltI (a.tdiv b * b) a ∧ -(-a / b) = a.tdiv b) := by
      unfold ltI
      by_cases hc : a.tmod b > 0
      · rw [if_pos hc] at q; exact Or.inl ⟨by omega, by omega, by omega, by omega, q⟩
      · rw [if_neg hc] at q; exact Or.inr ⟨by omega, q⟩
    clear q f1 f2 f3 f4 q3
    rcases hcase with ⟨c1, c2, c3, c4, c5⟩ | ⟨c1, c5⟩
    all_goals
      unfold ltI at c1
      try unfold ltI at c4
      have C5 := Lib.hid c5
      clear c5
      go_enter Tryz.func115, Tryz.ntmps115
      go_wp2_with fail
      refine (valid_any a b _ a0 a1 b0 b1).mono ?_; rintro e w1 ⟨rfl, hb1⟩; rw [Hx.out]
      obtain ⟨hc, hf⟩ := bcell hb1
      simp only [World.size_alloc] at hc hf
      go_wp2
      go_rounds 2
      go_ret
      exact ⟨ret_int (C5.out.symm), ((Below.refl _ _).alloc (Nat.le_refl _) _).trans (hb1.mono (by simp))⟩

end Go.Proofs.YtbncfknjgldcbaaGreat.Ref
