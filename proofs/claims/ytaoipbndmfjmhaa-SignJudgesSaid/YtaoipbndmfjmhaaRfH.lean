/- The reference's Sign: a round of its second loop. -/
import Derived.Test.YtaoipbndmfjmhaaRfG
import Derived.Test.YtaoipbndmfjmhaaInvP
namespace Go.Proofs.Ytaoipbndmfjmhaa
open Go.RowKit Go.Joins
namespace RSg
set_option maxRecDepth 100000 in
set_option maxHeartbeats 8000000 in
noncomputable def round : Cut4 step.p1 := by
  refine ⟨?p1, ?p2, ?p3, ?p4, fun H1 H2 H3 H4 => ?main⟩
  case main =>
    unfold step
    intro seed d h q hh hq w HN f HV Z O hZs R hRs hZn T HD HT zrsRound0 w1 gS hgS w2 zrsRound1 w3 gD hSD zrsRound2 u18 u19 u20 u21 u22 u23 u24 u25 u26 u27 u28 u29 u30 u31 hDl Sg HSg zrsRound3 zrsRound4 zrsRound5 zrsRound6 zrsRound7 S hS hHS wr u33 u34 u35 u36 u37 u38 u39 u40 u41 u42 u43 u44 u45 u46 u47 u48 u49 u50 u51 u52 u53 u54 u55 u56 u57 u58 u59 u60 u61 u62 n m G c hn hm bS hown hSl b8 hB hlt
    have hd : decide (n < h) = true := decide_eq_true hlt
    have hm64 : m < 64 := by
      have h1 : m ≤ q := by rw [hm]; exact Nat.div_le_self _ _
      have h2 : 2 ^ h ≤ 2 ^ 6 := Nat.pow_le_pow_right (by decide) (by assumption)
      omega
    replace hm := Lib.hid hm
    by_cases hpar : m % 2 = 0
    ·
      have e1 : (m : Int) % 2 = 0 := by omega
      have e2 : ((m : Int) % 2 == 0) = true := by rw [beq_iff_eq]; exact e1
      have e3 : ((m : Int).tmod 2 == 0) = true := by rw [Int.tmod_eq_emod_of_nonneg (Int.natCast_nonneg m)]; exact e2
      clear e1
      go_upto_region 12 with fail
      rename_i zrsEven0 zrsEven1 zrsEven2 zrsEven3 zrsEven4
      clear H2 H3 H4
      revert seed d h q hh hq w HN f HV Z O hZs R hRs hZn T HD HT zrsRound0 w1 gS hgS w2 zrsRound1 w3 gD hSD zrsRound2 u18 u19 u20 u21 u22 u23 u24 u25 u26 u27 u28 u29 u30 u31 hDl Sg HSg zrsRound3 zrsRound4 zrsRound5 zrsRound6 zrsRound7 S hS hHS wr u33 u34 u35 u36 u37 u38 u39 u40 u41 u42 u43 u44 u45 u46 u47 u48 u49 u50 u51 u52 u53 u54 u55 u56 u57 u58 u59 u60 u61 u62 n m G c hn bS hown hSl b8 hB hlt hd hm64 hm hpar e2 e3 zrsEven0 zrsEven1 zrsEven2 zrsEven3 zrsEven4
      exact H1.out
    ·
      have e1 : ¬ (m : Int) % 2 = 0 := by omega
      have e2 : ((m : Int) % 2 == 0) = false := by rw [beq_eq_false_iff_ne]; exact e1
      have e3 : ((m : Int).tmod 2 == 0) = false := by rw [Int.tmod_eq_emod_of_nonneg (Int.natCast_nonneg m)]; exact e2
      clear e1
      go_upto_region 13 with fail
      rename_i zrsOdd0 zrsOdd1 zrsOdd2 zrsOdd3 zrsOdd4
      clear H1 H3 H4
      revert seed d h q hh hq w HN f HV Z O hZs R hRs hZn T HD HT zrsRound0 w1 gS hgS w2 zrsRound1 w3 gD hSD zrsRound2 u18 u19 u20 u21 u22 u23 u24 u25 u26 u27 u28 u29 u30 u31 hDl Sg HSg zrsRound3 zrsRound4 zrsRound5 zrsRound6 zrsRound7 S hS hHS wr u33 u34 u35 u36 u37 u38 u39 u40 u41 u42 u43 u44 u45 u46 u47 u48 u49 u50 u51 u52 u53 u54 u55 u56 u57 u58 u59 u60 u61 u62 n m G c hn bS hown hSl b8 hB hlt hd hm64 hm hpar e2 e3 zrsOdd0 zrsOdd1 zrsOdd2 zrsOdd3 zrsOdd4
      exact H2.out
  all_goals exact True
end RSg
end Go.Proofs.Ytaoipbndmfjmhaa
