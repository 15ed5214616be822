/- SignForm: 'own' is false. -/
import Derived.Test.YtaoipbndmfjmhaaFmD
namespace Go.Proofs.Ytaoipbndmfjmhaa
open Go.RowKit Go.Joins
namespace Fm
set_option maxRecDepth 100000 in
set_option maxHeartbeats 8000000 in
theorem notA2 : notown.p1 := by
  unfold notown
  intro root d ht q f G c l cb hcb w HW n Hn T c19T c0T HT hn10 zfmRest0 w1 g Hg sh u27 u28 u29 u30 u31 u32 u33 u34 u35 u36 u37 u38 u39 u40 u41 u42 u43 u44 u45 u46 u47 u48 u49 u50 u51 u52 u53 nq w2 hi2 wc u54 u55 u56 u57 u58 u59 u60 u61 hQ3 HE Hf v1 bT3 hB3 k0 k19 hgl zfmNotA0 zfmNotA1 zfmNotA2 zfmNotA3 zfmNotA4 zfmNotA5
  have hf := Hf.out
  clear HW hcb hQ3 hB3 bT3 Hn HT Hg Hf HE
  by_cases h6 : 6 < n
  · have d6 : decide ((n : Int) ≤ 6) = false := decide_eq_false (by omega)
    clear h6 hf
    go_quiet (fail)
    refine zfmNotA5 _ _ (zfmNotA4 _ _ ?_)
    repeat apply Exists.intro
    refine ⟨?_, rfl⟩
    exact ⟨rfl, _, rfl⟩
  have d6 : decide ((n : Int) ≤ 6) = true := decide_eq_true (by omega)
  by_cases hq0 : q < 0
  · have dq : decide (0 ≤ q) = false := decide_eq_false (by omega)
    clear h6 hq0 hf
    go_quiet (fail)
    refine zfmNotA5 _ _ (zfmNotA4 _ _ ?_)
    repeat apply Exists.intro
    refine ⟨?_, rfl⟩
    exact ⟨rfl, _, rfl⟩
  have dq : decide (0 ≤ q) = true := decide_eq_true (by omega)
  have hh : n ≤ 6 := by omega
  obtain ⟨hp1, hp2⟩ := pow_wrap n hh
  have dN : decide (q < ((2 ^ n : Nat) : Int)) = false := by
    unfold okK at hf
    rw [Int.toNat_natCast] at hf
    rw [decide_eq_false_iff_not] at hf ⊢
    intro e
    rw [Int.natCast_pow] at e
    exact hf ⟨⟨by omega, by omega⟩, by omega, e⟩
  obtain ⟨N, hN⟩ : ∃ N, 2 ^ n = N := ⟨_, rfl⟩
  rw [hN] at hp1 hp2 dN
  clear hN h6 hq0 hf
  go_quiet (fail)
  refine zfmNotA5 _ _ (zfmNotA4 _ _ ?_)
  repeat apply Exists.intro
  refine ⟨?_, rfl⟩
  exact ⟨rfl, _, rfl⟩
end Fm
end Go.Proofs.Ytaoipbndmfjmhaa
