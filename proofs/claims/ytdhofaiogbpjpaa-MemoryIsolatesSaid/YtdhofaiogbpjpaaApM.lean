/- The mathematics of a layout's addresses: who owns which, which are met. -/
import Derived.Test.YtdhofaiogbpjpaaRefT
namespace Go.Proofs.Ytdhofaiogbpjpaa
open Go.RowKit
namespace Me
theorem find_first {α : Type} {l : List α} {q : α → Bool} {i : Nat} {x : α} (hx : l[i]? = some x) (hq : q x = true) (h : ∀ (j : Nat) (y : α), j < i → l[j]? = some y → q y = false) : l.find? q = some x := by
  refine find_yes hx ?_ hq
  rw [List.find?_eq_none]
  intro y hy
  obtain ⟨j, hj⟩ := List.getElem?_of_mem hy
  rw [List.getElem?_take] at hj
  split at hj
  · rename_i hlt
    rw [h j y hlt hj]; decide
  · cases hj
theorem find_never {α : Type} {l : List α} {q : α → Bool} (h : ∀ (j : Nat) (y : α), l[j]? = some y → q y = false) : l.find? q = none := by
  rw [List.find?_eq_none]
  intro y hy
  obtain ⟨j, hj⟩ := List.getElem?_of_mem hy
  rw [h j y hj]; decide
theorem layA_inv {ns : List Nat} {k j : Nat} {y : Rg} (h : (layA ns k)[j]? = some y) : j < k ∧ y = regA ns j := by
  have hj : j < k := by
    have := (List.getElem?_eq_some_iff.1 h).1
    rwa [layA_len] at this
  rw [layA_get ns k j hj] at h
  exact ⟨hj, (Option.some.inj h).symm⟩
theorem wrap_nat {a : Nat} (h : a ≤ 1000000) : wrap64 (a : Int) = a := IntWalk.wrap64_in _ (by omega)
section
variable {ns : List Nat} {k : Nat} (hk : k ≤ 6) (hns : ∀ n ∈ ns, n ≤ 4096)
include hk hns
theorem lay_small {j : Nat} (hj : j < k) : up8 (endA ns j) + ns.getD j 0 ≤ 24618 := by
  have h1 := endA_le ns hns (j + 1)
  have h2 : endA ns (j + 1) = up8 (endA ns j) + ns.getD j 0 := rfl
  omega
omit hk hns in
theorem find_part {i : Nat} (hi : i < k) : (layA ns k).find? (fun r => r.p == (i : Int)) = some (regA ns i) := by
  refine find_first (layA_get ns k i hi) (by simp [regA]) fun j y hj hy => ?_
  obtain ⟨-, rfl⟩ := layA_inv hy
  simp [regA]; omega
theorem lay_trans {i : Nat} (hi : i < k) {a : Nat} (ha : a < ns.getD i 0) : trR (layA ns k) i a = (((up8 (endA ns i) + a : Nat) : Int), 0) := by
  have hs := lay_small hk hns hi
  unfold trR
  rw [find_part hi]
  show (if ((a : Nat) : Int) < 0 ∨ ((ns.getD i 0 : Nat) : Int) ≤ (a : Nat) then ((0 : Int), (110 : Int)) else (wrap64 (((up8 (endA ns i) : Nat) : Int) + (a : Nat)), 0)) = _
  rw [if_neg (by omega), show ((up8 (endA ns i) : Nat) : Int) + (a : Nat) = ((up8 (endA ns i) + a : Nat) : Int) by omega, wrap_nat (by omega)]
omit hk hns in
theorem lay_below {i : Nat} (hi : i < k) : trR (layA ns k) i (-1) = (0, 110) := by
  unfold trR
  rw [find_part hi]
  simp
omit hk hns in
theorem lay_over {i : Nat} (hi : i < k) : trR (layA ns k) i (ns.getD i 0 : Nat) = (0, 110) := by
  unfold trR
  rw [find_part hi]
  simp [regA]
omit hk hns in
theorem lay_none : trR (layA ns k) k 0 = (0, 6) := by
  unfold trR
  rw [find_never fun j y hy => by
    obtain ⟨hj, rfl⟩ := layA_inv hy
    simp [regA]; omega]
theorem in_reg {j : Nat} (hj : j < k) (x : Nat) : inR x (regA ns j) = (decide (up8 (endA ns j) ≤ x) && decide (x < up8 (endA ns j) + ns.getD j 0)) := by
  have hs := lay_small hk hns hj
  unfold inR regA
  simp only
  rw [show ((up8 (endA ns j) : Nat) : Int) + (ns.getD j 0 : Nat) = ((up8 (endA ns j) + ns.getD j 0 : Nat) : Int) by omega, wrap_nat (by omega), Bool.eq_iff_iff]
  simp
  omega
theorem lay_owner {i : Nat} (hi : i < k) {a : Nat} (ha : a < ns.getD i 0) : owR (layA ns k) (up8 (endA ns i) + a : Nat) = ((i : Int), (a : Int), true) := by
  have hs := lay_small hk hns hi
  unfold owR
  rw [find_first (layA_get ns k i hi) (by rw [in_reg hk hns hi]; simp only [Bool.and_eq_true, decide_eq_true_eq]; omega) fun j y hj hy => by
    obtain ⟨hj2, rfl⟩ := layA_inv hy
    rw [in_reg hk hns hj2]
    have h1 := endA_next ns j i hj
    have h2 := up8_le (endA ns i)
    simp only [Bool.and_eq_false_iff, decide_eq_false_iff_not]
    omega]
  simp only [regA, Prod.mk.injEq, and_true, true_and]
  rw [show ((up8 (endA ns i) + a : Nat) : Int) - (up8 (endA ns i) : Nat) = ((a : Nat) : Int) by omega, wrap_nat (by omega)]
end
/-! ### The addresses that were met -/
/-- Those of the partitions before i, and the first a of partition i. -/
def cov (ns : List Nat) (i a x : Nat) : Bool := (List.range i).any (fun j => decide (up8 (endA ns j) ≤ x) && decide (x < up8 (endA ns j) + ns.getD j 0)) || (decide (up8 (endA ns i) ≤ x) && decide (x < up8 (endA ns i) + a))
def covN (ns : List Nat) (i a x : Nat) : Nat := if cov ns i a x = true then 1 else 0
theorem cov_zero (ns : List Nat) (x : Nat) : covN ns 0 0 x = 0 := by
  have : cov ns 0 0 x = false := by
    unfold cov
    simp
  unfold covN
  rw [this]; rfl
theorem cov_next (ns : List Nat) (i x : Nat) : covN ns (i + 1) 0 x = covN ns i (ns.getD i 0) x := by
  have : cov ns (i + 1) 0 x = cov ns i (ns.getD i 0) x := by
    unfold cov
    rw [List.range_succ, List.any_append]
    have : (decide (up8 (endA ns (i + 1)) ≤ x) && decide (x < up8 (endA ns (i + 1)) + 0)) = false := by simp
    rw [this]
    simp
  unfold covN
  rw [this]
theorem cov_new (ns : List Nat) (i a : Nat) : covN ns i a (up8 (endA ns i) + a) = 0 := by
  have : cov ns i a (up8 (endA ns i) + a) = false := by
    unfold cov
    rw [Bool.or_eq_false_iff]
    refine ⟨?_, by simp⟩
    rw [List.any_eq_false]
    intro j hj
    have h1 := endA_next ns j i (by simpa using hj)
    have h2 := up8_le (endA ns i)
    simp only [Bool.and_eq_true, decide_eq_true_eq]
    omega
  unfold covN
  rw [this]; rfl
theorem cov_step (ns : List Nat) (i a x : Nat) : covN ns i (a + 1) x = if x = up8 (endA ns i) + a then 1 else covN ns i a x := by
  by_cases h : x = up8 (endA ns i) + a
  · rw [if_pos h]
    have : cov ns i (a + 1) x = true := by
      unfold cov
      rw [Bool.or_eq_true]
      right
      simp; omega
    unfold covN
    rw [this]; rfl
  · rw [if_neg h]
    have : cov ns i (a + 1) x = cov ns i a x := by
      unfold cov
      congr 1
      rw [Bool.eq_iff_iff]
      simp; omega
    unfold covN
    rw [this]
theorem covN_le (ns : List Nat) (i a x : Nat) : covN ns i a x ≤ 1 := by unfold covN; split <;> omega
theorem cov_owner {ns : List Nat} {k : Nat} (hk : k ≤ 6) (hns : ∀ n ∈ ns, n ≤ 4096) (x : Nat) : (owR (layA ns k) x).2.2 = decide (covN ns k 0 x = 1) := by
  have hc : decide (covN ns k 0 x = 1) = cov ns k 0 x := by
    unfold covN
    cases cov ns k 0 x <;> simp
  rw [hc]
  have hany : cov ns k 0 x = (layA ns k).any (inR x) := by
    unfold cov layA
    have : (decide (up8 (endA ns k) ≤ x) && decide (x < up8 (endA ns k) + 0)) = false := by simp
    rw [this, Bool.or_false, List.any_map, Bool.eq_iff_iff, List.any_eq_true, List.any_eq_true]
    constructor
    · rintro ⟨j, hj, h⟩
      exact ⟨j, hj, by simp only [Function.comp]; rw [in_reg hk hns (by simpa using hj)]; exact h⟩
    · rintro ⟨j, hj, h⟩
      simp only [Function.comp] at h
      rw [in_reg hk hns (by simpa using hj)] at h
      exact ⟨j, hj, h⟩
  rw [hany]
  unfold owR
  cases hf : (layA ns k).find? (inR x) with
  | none =>
    rw [List.find?_eq_none] at hf
    symm
    rw [List.any_eq_false]
    exact hf
  | some r =>
    symm
    rw [List.any_eq_true]
    exact ⟨r, List.mem_of_find?_eq_some hf, List.find?_some hf⟩
/-- How many were met. -/
def tot (ns : List Nat) : Nat → Nat
  | 0 => 0
  | i + 1 => tot ns i + ns.getD i 0
theorem tot_le (ns : List Nat) : ∀ i, tot ns i ≤ endA ns i
  | 0 => Nat.le_refl _
  | i + 1 => by
    have := tot_le ns i
    have h := up8_le (endA ns i)
    simp only [tot, endA]
    omega
end Me
end Go.Proofs.Ytdhofaiogbpjpaa
