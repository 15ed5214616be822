/- Checksums: of two different numbers each has a smaller digit somewhere. -/
import Derived.Test.YtpmabjjkhmoieaaArr
namespace Go.Proofs.Ytpmabjjkhmoieaa

theorem mod_succ (n k : Nat) : n % 16 ^ (k + 1) = n % 16 ^ k + 16 ^ k * (n / 16 ^ k % 16) := by
  rw [Nat.pow_succ, Nat.mod_mul]
theorem hex_ext {d e : BitVec 64} (h : ∀ i, i < 16 → hexN d i = hexN e i) : d = e := by
  have key : ∀ k, k ≤ 16 → d.toNat % 16 ^ k = e.toNat % 16 ^ k := by
    intro k
    induction k with
    | zero => intro _; simp [Nat.mod_one]
    | succ k ih =>
      intro hk
      rw [mod_succ, mod_succ, ih (by omega)]
      have := h k (by omega)
      unfold hexN at this
      rw [this]
  have h16 := key 16 (Nat.le_refl _)
  have e1 : (16 : Nat) ^ 16 = 2 ^ 64 := by decide
  rw [e1, Nat.mod_eq_of_lt d.isLt, Nat.mod_eq_of_lt e.isLt] at h16
  exact BitVec.eq_of_toNat_eq h16
theorem chk_le {d e : BitVec 64} : ∀ k, (∀ i, i < k → hexN e i ≤ hexN d i) → chkTo d k ≤ chkTo e k
  | 0, _ => Nat.le_refl _
  | k + 1, h => by
    have h1 := chk_le k (fun i hi => h i (by omega))
    have h2 := h k (by omega)
    unfold chkTo; omega
theorem chk_lt {d e : BitVec 64} : ∀ k, (∀ i, i < k → hexN e i ≤ hexN d i) → (∃ i, i < k ∧ hexN e i ≠ hexN d i) → chkTo d k < chkTo e k
  | 0, _, ⟨i, hi, _⟩ => by omega
  | k + 1, h, ⟨i, hi, hne⟩ => by
    have h2 := h k (by omega)
    have h3 := hexN_lt d k
    unfold chkTo
    by_cases e1 : i = k
    · subst e1
      have h1 := chk_le i (fun j hj => h j (by omega))
      omega
    · have h1 := chk_lt k (fun j hj => h j (by omega)) ⟨i, by omega, hne⟩
      omega
/-- Some digit of d is smaller. -/
theorem dig_less {d e : BitVec 64} (hne : d ≠ e) : ∃ i, i < 18 ∧ digN d i < digN e i := by
  rcases Classical.em (∃ i, i < 18 ∧ digN d i < digN e i) with h | h
  · exact h
  · exfalso
    have hle : ∀ i, i < 18 → digN e i ≤ digN d i := fun i hi => by
      rcases Nat.lt_or_ge (digN d i) (digN e i) with h1 | h1
      · exact absurd ⟨i, hi, h1⟩ h
      · exact h1
    have hx : ∀ i, i < 16 → hexN e i ≤ hexN d i := fun i hi => by
      have := hle i (by omega)
      unfold digN at this
      rwa [if_pos hi, if_pos hi] at this
    have hdiff : ∃ i, i < 16 ∧ hexN e i ≠ hexN d i := by
      rcases Classical.em (∃ i, i < 16 ∧ hexN e i ≠ hexN d i) with h1 | h1
      · exact h1
      · exact absurd (hex_ext (d := d) (e := e) fun i hi => by
          rcases Nat.decEq (hexN e i) (hexN d i) with h2 | h2
          · exact absurd ⟨i, hi, h2⟩ h1
          · exact h2.symm) hne
    have h1 := chk_lt 16 hx hdiff
    have h2 := hle 16 (by decide)
    have h3 := hle 17 (by decide)
    unfold digN at h2 h3
    simp at h2 h3
    omega
/-- How many digits are smaller among the first k. -/
def lessTo (d e : BitVec 64) : Nat → Nat
  | 0 => 0
  | k + 1 => lessTo d e k + (if digN d k < digN e k then 1 else 0)
theorem lessTo_le (d e : BitVec 64) : ∀ k, lessTo d e k ≤ k
  | 0 => Nat.le_refl _
  | k + 1 => by have := lessTo_le d e k; unfold lessTo; split <;> omega
theorem lessTo_pos (d e : BitVec 64) : ∀ k, (0 < lessTo d e k ↔ ∃ i, i < k ∧ digN d i < digN e i)
  | 0 => by simp [lessTo]
  | k + 1 => by
    have ih := lessTo_pos d e k
    unfold lessTo
    constructor
    · intro h
      by_cases hk : digN d k < digN e k
      · exact ⟨k, by omega, hk⟩
      · rw [if_neg hk] at h
        obtain ⟨i, hi, h1⟩ := ih.1 (by omega)
        exact ⟨i, by omega, h1⟩
    · rintro ⟨i, hi, h1⟩
      by_cases e1 : i = k
      · subst e1; rw [if_pos h1]; omega
      · have := ih.2 ⟨i, by omega, h1⟩
        split <;> omega
theorem less_pos (d e : BitVec 64) : 0 < lessTo d e 18 ↔ d ≠ e := by
  rw [lessTo_pos]
  constructor
  · rintro ⟨i, _, h⟩ rfl
    exact absurd h (Nat.lt_irrefl _)
  · exact dig_less
/-- The number of the first k digits. -/
def numTo (d : BitVec 64) (k : Nat) : Nat := d.toNat % 16 ^ k
theorem numTo_zero (d : BitVec 64) : numTo d 0 = 0 := by simp [numTo, Nat.mod_one]
theorem numTo_succ (d : BitVec 64) (k : Nat) : numTo d (k + 1) = numTo d k ||| (hexN d k * 16 ^ k) := by
  unfold numTo hexN
  rw [mod_succ]
  have h1 : d.toNat % 16 ^ k < 2 ^ (4 * k) := by
    rw [Nat.pow_mul]
    exact Nat.mod_lt _ (Nat.pos_of_ne_zero (by simp))
  have h2 := Nat.two_pow_add_eq_or_of_lt h1 (d.toNat / 16 ^ k % 16)
  rw [Nat.pow_mul] at h2
  rw [Nat.add_comm, h2, Nat.or_comm, Nat.mul_comm (d.toNat / 16 ^ k % 16)]
theorem numTo_full (d : BitVec 64) : numTo d 16 = d.toNat := by
  unfold numTo
  exact Nat.mod_eq_of_lt (by have := d.isLt; have e1 : (16 : Nat) ^ 16 = 2 ^ 64 := by decide
                             omega)
theorem dig_sum (d : BitVec 64) : digN d 16 + 16 * digN d 17 = chkTo d 16 := by
  unfold digN
  simp
  omega
end Go.Proofs.Ytpmabjjkhmoieaa
