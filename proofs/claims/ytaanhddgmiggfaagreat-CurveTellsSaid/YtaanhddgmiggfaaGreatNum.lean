/- The numbers of rat as the rational numbers that they stand for: plain mathematics over mkN, vldB and their kin. -/
import Derived.Test.YtaanhddgmiggfaaGreatCmp
namespace Go.Proofs.YtaanhddgmiggfaaGreat.Num
open Go.RowKit

def Bd (r : Rat) (A B : Nat) : Prop := r.num.natAbs ≤ A ∧ r.den ≤ B
/-- The result for a value: the number, or the error. -/
def ofR (r : Rat) : Int × Int × Int := if r.num.natAbs ≤ 1073741824 ∧ r.den ≤ 1073741824 then (r.num, (r.den : Int), 0) else (0, 0, 3)
theorem ofR_fits {r : Rat} {A B : Nat} (h : Bd r A B) (ha : A ≤ 1073741824) (hb : B ≤ 1073741824) : ofR r = (r.num, (r.den : Int), 0) := by
  unfold ofR; rw [if_pos ⟨Nat.le_trans h.1 ha, Nat.le_trans h.2 hb⟩]
theorem vld_r {r : Rat} {A B : Nat} (h : Bd r A B) (ha : A ≤ 1073741824) (hb : B ≤ 1073741824) : vldB r.num r.den = true := by
  have h1 := h.1
  have h2 := h.2
  have h3 := r.den_pos
  rw [vld_in (by omega) (by omega) (by omega) (by omega)]
  have h4 : Int.gcd r.num r.den = 1 := by
    have := r.reduced
    unfold Nat.Coprime at this
    simpa [Int.gcd] using this
  rw [h4]; rfl
theorem r_of_vld {n d : Int} (h : vldB n d = true) : ∃ r : Rat, r.num = n ∧ (r.den : Int) = d ∧ Bd r 1073741824 1073741824 := by
  obtain ⟨d0, d1, n0, n1, hg⟩ := vld_bd h
  refine ⟨⟨n, d.toNat, by omega, ?_⟩, rfl, by simp; omega, ?_⟩
  · unfold Nat.Coprime
    have : Int.gcd n d = Nat.gcd n.natAbs d.toNat := by unfold Int.gcd; rw [show d.natAbs = d.toNat by omega]
    omega
  · constructor
    · show n.natAbs ≤ _; omega
    · show d.toNat ≤ _; omega

theorem mk_ofR (p q : Int) (hq : q ≠ 0) : mkN p q = ofR (Rat.divInt p q) := by
  have hg0 : 0 < Int.gcd p q := Int.gcd_pos_of_ne_zero_right p hq
  have hn : (Rat.divInt p q).num.natAbs = p.natAbs / Int.gcd p q := by
    rw [Rat.num_divInt, Int.gcd_comm q p, Int.natAbs_ediv_of_dvd (Int.dvd_trans (Int.gcd_dvd_left p q) (Int.dvd_mul_left _ _)), Int.natAbs_mul, Int.natAbs_sign_of_ne_zero hq, Nat.one_mul]; rfl
  have hd : (Rat.divInt p q).den = q.natAbs / Int.gcd p q := by
    rw [Rat.den_divInt, if_neg hq, Int.gcd_comm q p]
  by_cases hf : p.natAbs / Int.gcd p q ≤ 1073741824 ∧ q.natAbs / Int.gcd p q ≤ 1073741824
  · rw [mk_fits hq rfl rfl (by omega) (by omega)]
    unfold ofR
    rw [hn, hd, if_pos hf, Rat.num_divInt, Int.gcd_comm q p]
    obtain ⟨m, hm⟩ := Int.gcd_dvd_left p q
    have hgi : (0 : Int) < (Int.gcd p q : Nat) := by omega
    generalize Int.gcd p q = g at hm hgi ⊢
    have e1 : q.sign * p / (g : Int) = q.sign * m := by rw [hm, ← Int.mul_assoc, Int.mul_comm q.sign, Int.mul_assoc, Int.mul_ediv_cancel_left _ (by omega)]
    have e2 : (p.natAbs : Int) / (g : Int) = m.natAbs := by rw [hm, Int.natAbs_mul, Int.natCast_mul, show (((g : Int).natAbs : Nat) : Int) = g by omega, Int.mul_ediv_cancel_left _ (by omega)]
    have e3 : decide (p < 0) = decide (m < 0) := by
      rw [Bool.eq_iff_iff]; simp only [decide_eq_true_eq]; rw [hm]
      constructor
      · intro h; refine Int.not_le.1 fun h2 => ?_; have := Int.mul_nonneg (Int.le_of_lt hgi) h2; omega
      · intro h; exact Int.mul_neg_of_pos_of_neg hgi h
    rw [e1, e2, e3]
    simp only [Prod.mk.injEq, and_true]
    refine ⟨?_, by omega⟩
    rcases Int.lt_trichotomy q 0 with h | h | h
    · rw [Int.sign_eq_neg_one_of_neg h]
      by_cases hm0 : m < 0 <;> simp [h, hm0] <;> omega
    · omega
    · rw [Int.sign_eq_one_of_pos h]
      have h' : ¬ q < 0 := by omega
      by_cases hm0 : m < 0 <;> simp [h', hm0] <;> omega
  · rw [mk_long hq rfl rfl (by omega)]
    unfold ofR
    rw [hn, hd, if_neg hf]

theorem bd_divInt {p q : Int} {A B : Nat} (hq : 0 < q) (hp : p.natAbs ≤ A) (hb : q.natAbs ≤ B) : Bd (Rat.divInt p q) A B := by
  have hg0 : 0 < Int.gcd p q := Int.gcd_pos_of_ne_zero_right p (by omega)
  constructor
  · rw [Rat.num_divInt, Int.gcd_comm q p, Int.natAbs_ediv_of_dvd (Int.dvd_trans (Int.gcd_dvd_left p q) (Int.dvd_mul_left _ _)), Int.natAbs_mul, Int.natAbs_sign_of_ne_zero (by omega), Nat.one_mul]
    exact Nat.le_trans (Nat.div_le_self _ _) hp
  · rw [Rat.den_divInt, if_neg (by omega)]
    exact Nat.le_trans (Nat.div_le_self _ _) hb
theorem add_divInt (r s : Rat) : r + s = Rat.divInt (r.num * s.den + s.num * r.den) (r.den * s.den) := by
  rw [Rat.add_def', ← Rat.divInt_ofNat]; simp
theorem sub_divInt (r s : Rat) : r - s = Rat.divInt (r.num * s.den - s.num * r.den) (r.den * s.den) := by
  rw [Rat.sub_def', ← Rat.divInt_ofNat]; simp
theorem mul_divInt (r s : Rat) : r * s = Rat.divInt (r.num * s.num) (r.den * s.den) := by
  rw [Rat.mul_def', ← Rat.divInt_ofNat]; simp
theorem div_divInt (r s : Rat) : r / s = Rat.divInt (r.num * s.den) (r.den * s.num) := by
  rw [Rat.div_def]
  have h1 := Rat.num_divInt_den r
  rw [Rat.inv_def s]
  conv => lhs; lhs; rw [← h1]
  rw [Rat.divInt_mul_divInt]
theorem den_ne (r s : Rat) : (r.den : Int) * s.den ≠ 0 := Int.mul_ne_zero (by have := r.den_pos; omega) (by have := s.den_pos; omega)
theorem den_pos2 (r s : Rat) : 0 < (r.den : Int) * s.den := Int.mul_pos (by have := r.den_pos; omega) (by have := s.den_pos; omega)

section
variable {r s : Rat} (hr : Bd r 1073741824 1073741824) (hs : Bd s 1073741824 1073741824)
include hr hs
theorem addN_r : addN r.num r.den s.num s.den = ofR (r + s) := by
  unfold addN
  rw [vld_r hr (Nat.le_refl _) (Nat.le_refl _), vld_r hs (Nat.le_refl _) (Nat.le_refl _)]
  simp only [Bool.and_self, if_true]
  rw [mk_ofR _ _ (den_ne r s), add_divInt]
theorem subN_r : subN r.num r.den s.num s.den = ofR (r - s) := by
  unfold subN
  rw [vld_r hr (Nat.le_refl _) (Nat.le_refl _), vld_r hs (Nat.le_refl _) (Nat.le_refl _)]
  simp only [Bool.and_self, if_true]
  rw [mk_ofR _ _ (den_ne r s), sub_divInt]
theorem mulN_r : mulN r.num r.den s.num s.den = ofR (r * s) := by
  unfold mulN
  rw [vld_r hr (Nat.le_refl _) (Nat.le_refl _), vld_r hs (Nat.le_refl _) (Nat.le_refl _)]
  simp only [Bool.and_self, if_true]
  rw [mk_ofR _ _ (den_ne r s), mul_divInt]
theorem divN_r (h0 : s ≠ 0) : divN r.num r.den s.num s.den = ofR (r / s) := by
  unfold divN
  rw [vld_r hr (Nat.le_refl _) (Nat.le_refl _), vld_r hs (Nat.le_refl _) (Nat.le_refl _)]
  simp only [Bool.and_self, if_true]
  rw [mk_ofR _ _ (Int.mul_ne_zero (by have := r.den_pos; omega) (fun h => h0 (Rat.num_eq_zero.1 h))), div_divInt]
theorem cmpN_r : cmpN r.num r.den s.num s.den = if r < s then -1 else if s < r then 1 else 0 := by
  unfold cmpN
  rw [vld_r hr (Nat.le_refl _) (Nat.le_refl _), vld_r hs (Nat.le_refl _) (Nat.le_refl _)]
  simp only [Bool.and_self, if_true]
  unfold sgnI
  simp only [Rat.lt_iff]
end

theorem bd_le {r : Rat} {A B C D : Nat} (h : Bd r A B) (ha : A ≤ C) (hb : B ≤ D) : Bd r C D := ⟨Nat.le_trans h.1 ha, Nat.le_trans h.2 hb⟩
theorem bd_add {r s : Rat} {A B C D : Nat} (hr : Bd r A B) (hs : Bd s C D) : Bd (r + s) (A * D + C * B) (B * D) := by
  rw [add_divInt]
  refine bd_divInt (den_pos2 r s) ?_ ?_
  · refine Nat.le_trans (Int.natAbs_add_le _ _) ?_
    rw [Int.natAbs_mul, Int.natAbs_mul]
    exact Nat.add_le_add (Nat.mul_le_mul hr.1 hs.2) (Nat.mul_le_mul hs.1 hr.2)
  · rw [Int.natAbs_mul]; exact Nat.mul_le_mul hr.2 hs.2
theorem bd_sub {r s : Rat} {A B C D : Nat} (hr : Bd r A B) (hs : Bd s C D) : Bd (r - s) (A * D + C * B) (B * D) := by
  rw [sub_divInt]
  refine bd_divInt (den_pos2 r s) ?_ ?_
  · refine Nat.le_trans (Int.natAbs_sub_le _ _) ?_
    rw [Int.natAbs_mul, Int.natAbs_mul]
    exact Nat.add_le_add (Nat.mul_le_mul hr.1 hs.2) (Nat.mul_le_mul hs.1 hr.2)
  · rw [Int.natAbs_mul]; exact Nat.mul_le_mul hr.2 hs.2
theorem bd_mul {r s : Rat} {A B C D : Nat} (hr : Bd r A B) (hs : Bd s C D) : Bd (r * s) (A * C) (B * D) := by
  rw [mul_divInt]
  refine bd_divInt (den_pos2 r s) ?_ ?_
  · rw [Int.natAbs_mul]; exact Nat.mul_le_mul hr.1 hs.1
  · rw [Int.natAbs_mul]; exact Nat.mul_le_mul hr.2 hs.2
end Go.Proofs.YtaanhddgmiggfaaGreat.Num
