/- SignForm: what 'shaped' is. -/
import Derived.Test.YtaoipbndmfjmhaaFmA
namespace Go.Proofs.Ytaoipbndmfjmhaa
open Go.RowKit Go.Joins
namespace Fm
set_option maxRecDepth 100000 in
set_option maxHeartbeats 8000000 in
theorem shaped : step.p1 := by
  unfold step
  intro root d ht q f G c l cb hcb w hQ HW n Hn T c19T c0T HT hn10 zfmFirst0 zfmFirst1 zfmFirst2 w1 hB hQ1 g k19 k0 bT hgl Hg sh hsh Hsh zfmFirst3 zfmFirst4 zfmFirst5 zfmFirst6
  clear HW hcb hQ hQ1 hB bT Hn HT Hg Hsh
  by_cases h0 : ht < 0
  · have d0 : decide (0 ≤ ht) = false := decide_eq_false (by omega)
    obtain rfl : sh = false := by rw [← hsh]; unfold okK; rw [decide_eq_false (by omega)]; rfl
    clear hsh h0
    go_quiet (fail)
    refine zfmFirst6 _ _ (zfmFirst5 _ _ ?_)
    repeat apply Exists.intro
    refine ⟨?_, rfl⟩
    exact ⟨rfl, _, rfl⟩
  have d0 : decide (0 ≤ ht) = true := decide_eq_true (by omega)
  by_cases h6 : 6 < ht
  · have d6 : decide (ht ≤ 6) = false := decide_eq_false (by omega)
    obtain rfl : sh = false := by rw [← hsh]; unfold okK; rw [decide_eq_false (by omega)]; rfl
    clear hsh h0 h6
    go_quiet (fail)
    refine zfmFirst6 _ _ (zfmFirst5 _ _ ?_)
    repeat apply Exists.intro
    refine ⟨?_, rfl⟩
    exact ⟨rfl, _, rfl⟩
  have d6 : decide (ht ≤ 6) = true := decide_eq_true (by omega)
  by_cases hq0 : q < 0
  · have dq : decide (0 ≤ q) = false := decide_eq_false (by omega)
    obtain rfl : sh = false := by rw [← hsh]; unfold okK; rw [decide_eq_false (by omega)]; rfl
    clear hsh h0 h6 hq0
    go_quiet (fail)
    refine zfmFirst6 _ _ (zfmFirst5 _ _ ?_)
    repeat apply Exists.intro
    refine ⟨?_, rfl⟩
    exact ⟨rfl, _, rfl⟩
  have dq : decide (0 ≤ q) = true := decide_eq_true (by omega)
  obtain ⟨h, rfl⟩ := Int.eq_ofNat_of_zero_le (Int.not_lt.1 h0)
  have hh : h ≤ 6 := by omega
  obtain ⟨hp1, hp2⟩ := pow_wrap h hh
  have hok : okK q (h : Int) = decide (q < ((2 ^ h : Nat) : Int)) := by
    unfold okK
    rw [Int.toNat_natCast, Int.natCast_pow]
    congr 1
    simp
    omega
  rw [hok] at hsh
  obtain ⟨N, hN⟩ : ∃ N, 2 ^ h = N := ⟨_, rfl⟩
  rw [hN] at hp1 hp2 hsh
  have hmin := fun W => min_two (h : Int) (h : Int) 6 (by omega) #[3, 3] 3 W
  have hmax := fun W => max_two (h : Int) (h : Int) 0 (by omega) #[3, 3] 3 W
  clear hN hok h0 h6 hq0
  by_cases hqN : q < (N : Int)
  · have dN : decide (q < (N : Int)) = true := decide_eq_true hqN
    rw [dN, Bool.true_and] at hsh
    clear hqN
    have hnh : ((n : Int) == (h : Int)) = sh := by rw [← hsh]; rfl
    clear hsh
    go_quiet (fail)
    refine zfmFirst6 _ _ (zfmFirst5 _ _ ?_)
    repeat apply Exists.intro
    refine ⟨?_, rfl⟩
    exact ⟨rfl, _, rfl⟩
  · have dN : decide (q < (N : Int)) = false := decide_eq_false hqN
    rw [dN, Bool.false_and] at hsh
    obtain rfl : sh = false := hsh.symm
    clear hqN hsh
    go_quiet (fail)
    refine zfmFirst6 _ _ (zfmFirst5 _ _ ?_)
    repeat apply Exists.intro
    refine ⟨?_, rfl⟩
    exact ⟨rfl, _, rfl⟩
end Fm
end Go.Proofs.Ytaoipbndmfjmhaa
