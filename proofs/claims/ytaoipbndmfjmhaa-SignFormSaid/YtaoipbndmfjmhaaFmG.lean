/- SignForm: 'own' is true. -/
import Derived.Test.YtaoipbndmfjmhaaFmF
namespace Go.Proofs.Ytaoipbndmfjmhaa
open Go.RowKit Go.Joins
namespace Fm
set_option maxRecDepth 100000 in
set_option maxHeartbeats 8000000 in
theorem ownA : own'.p1 := by
  unfold own'
  intro root d ht f G c l cb hcb w HW n Hn T c19T hn10 zfmRest0 w1 g Hg sh u27 u28 u29 u30 u31 u32 u33 u34 u35 u36 u37 u38 u39 u40 u41 u42 u43 u44 u45 u46 u47 u48 u49 u50 u51 u52 u53 nq w2 hi2 wc u54 u55 u56 u57 u58 u59 u60 u61 m c0T HT hn6 T' EB D hEB FE FD FDs FDl FSa HT2 FTi FTo FTs HD v1 A1 cp1 hA1 hcp bT3 hQ3 hB3 k0 k19 hgl How zfmOwnA0 zfmOwnA1 zfmOwnA2 zfmOwnA3 zfmOwnA4 zfmOwnA5
  have hf := How.out
  clear HW hcb hQ3 hB3 bT3 Hn HT Hg How FE FD FDs FDl FSa HT2 FTi FTo FTs hA1 HD hEB hcp
  have d6 : decide ((n : Int) ≤ 6) = true := decide_eq_true (by omega)
  have dq : decide (0 ≤ (m : Int)) = true := decide_eq_true (by omega)
  obtain ⟨hp1, hp2⟩ := pow_wrap n hn6
  have dN : decide ((m : Int) < ((2 ^ n : Nat) : Int)) = true := by
    unfold okK at hf
    have h1 := (of_decide_eq_true hf).2.2
    rw [Int.toNat_natCast] at h1
    rw [Int.natCast_pow]
    exact decide_eq_true h1
  have hmN : m < 2 ^ n := by have := of_decide_eq_true dN; omega
  have dN2 : decide (m < 2 ^ n) = true := decide_eq_true hmN
  obtain ⟨N, hN⟩ : ∃ N, 2 ^ n = N := ⟨_, rfl⟩
  rw [hN] at hp1 hp2 dN dN2
  clear hN hf hmN
  go_quiet (fail)
  refine zfmOwnA5 _ _ (zfmOwnA4 _ _ ?_)
  repeat apply Exists.intro
  refine ⟨?_, rfl⟩
  exact ⟨rfl, _, rfl⟩
end Fm
end Go.Proofs.Ytaoipbndmfjmhaa
