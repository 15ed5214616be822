/- SignForm: a signature that has an encoding. -/
import Derived.Test.YtaoipbndmfjmhaaFmC
import Derived.Test.YtaoipbndmfjmhaaFmK
namespace Go.Proofs.Ytaoipbndmfjmhaa
open Go.RowKit Go.Joins
namespace Fm
set_option maxRecDepth 100000 in
set_option maxHeartbeats 8000000 in
noncomputable def own' : Cut4 after.p1 := by
  refine ⟨?p1, ?p2, ?p3, ?p4, fun H1 H2 H3 H4 => ?main⟩
  case main =>
    unfold after
    intro root d ht q f G c l cb hcb w HW n Hn T c19T c0T HT hn10 zfmRest0 w1 g Hg sh u27 u28 u29 u30 u31 u32 u33 u34 u35 u36 u37 u38 u39 u40 u41 u42 u43 u44 u45 u46 u47 u48 u49 u50 u51 u52 u53 nq w2 hi2 wc u54 u55 u56 u57 u58 u59 u60 u61 bT3 hQ3 hB3 zfmOwn0 zfmOwn1 zfmOwn2 zfmOwn3 how
    obtain ⟨m, rfl⟩ : ∃ m : Nat, q = m := by
      unfold okK at how
      exact Int.eq_ofNat_of_zero_le (of_decide_eq_true how).2.1
    have hn6 : n ≤ 6 := okK_len how
    obtain ⟨T', EB, D, hD, hEB, eT, fE, fD, fDs, fDl, fSa⟩ := kit m n f l Hn.out how
    have FE := Lib.hid fE
    have FD := Lib.hid fD
    have FDs := Lib.hid fDs
    have FDl := Lib.hid fDl
    have FSa := Lib.hid fSa
    have ET := Lib.hid (eT G c)
    have HT2 : Hid (T' G c = T) := by unfold Hid; rw [ET.out]; exact HT.out
    have FTi : Hid (∀ G c, (Try.prog.info? 34).map (·.size) = some (T' G c).size) := fun G c => by rw [eT, sgA_size]; exact info_sig
    have FTo : Hid (∀ G c, (T' G c).all (·.oneCell') = true) := fun G c => by rw [eT]; exact sgA_one _ _ _ rfl
    have FTs : Hid (∀ G c, (T' G c).size = 20) := fun G c => by rw [eT]; exact sgA_size _ _ _
    have HD := Lib.hid hD
    clear fE fD fDs fDl fSa eT ET hD
    have hE := FE.out G c _ hQ3
    rw [HT2.out] at hE
    (with_reducible refine hE.mono ?_); rintro e v1 ⟨A1, cp1, rfl, hA1, hb1, hcp⟩
    replace bT3 := bT3.keep hb1
    replace hQ3 := hQ3.keep hb1
    replace hB3 := hB3.trans (hb1.mono hB3.size)
    clear hb1 hE
    have k0 := bT3.cell 0
    have k19 := bT3.cell 19
    rw [c0T] at k0
    rw [c19T] at k19
    have hgl := bT3.lt
    have How := Lib.hid how
    clear how
    go_upto_region 7 with fail
    go_cut [14] from 68 to 85 (fun s14 wx => s14 = .bool true ∧ ∃ nq, wx = v1.drewN nq)
    case first =>
      rename_i zfmOwnA0 zfmOwnA1 zfmOwnA2 zfmOwnA3 zfmOwnA4 zfmOwnA5
      clear H2 H3 H4
      revert root d ht f G c l cb hcb w HW n Hn T c19T hn10 zfmRest0 w1 g Hg sh u27 u28 u29 u30 u31 u32 u33 u34 u35 u36 u37 u38 u39 u40 u41 u42 u43 u44 u45 u46 u47 u48 u49 u50 u51 u52 u53 nq w2 hi2 wc u54 u55 u56 u57 u58 u59 u60 u61 m c0T HT hn6 T' EB D hEB FE FD FDs FDl FSa HT2 FTi FTo FTs HD v1 A1 cp1 hA1 hcp bT3 hQ3 hB3 k0 k19 hgl How zfmOwnA0 zfmOwnA1 zfmOwnA2 zfmOwnA3 zfmOwnA4 zfmOwnA5
      exact H1.out
    case rest =>
    obtain ⟨hs14, nq2, rfl⟩ := hcut
    subst hs14
    have bT4 := bT3.drewN nq2
    have hB4 := below_drewN hB3 nq2
    have hQ4 : isQ G l (v1.drewN nq2) := hQ3.keep (below_drewN (Below.refl _ v1) nq2)
    have hA4 : isB A1 EB (v1.drewN nq2) := hA1.keep (below_drewN (Below.refl _ v1) nq2)
    clear k0 k19 bT3 hB3 hQ3 hA1 hgl
    generalize v1.drewN nq2 = v2 at bT4 hB4 hQ4 hA4 ⊢
    rename_i zfmOwnB0 zfmOwnB1
    clear H1 H3 H4
    revert root d ht f G c l cb hcb w HW n Hn T c19T hn10 zfmRest0 w1 g Hg sh u27 u28 u29 u30 u31 u32 u33 u34 u35 u36 u37 u38 u39 u40 u41 u42 u43 u44 u45 u46 u47 u48 u49 u50 u51 u52 u53 nq w2 hi2 wc u54 u55 u56 u57 u58 u59 u60 u61 m c0T HT hn6 T' EB D hEB FE FD FDs FDl FSa HT2 FTi FTo FTs HD v1 A1 cp1 hcp How zfmOwnB0 zfmOwnB1 u68 u69 u70 u71 u72 u73 u74 u75 u76 u77 u78 u79 u80 u81 u82 u83 u84 u85 nq2 v2 bT4 hB4 hQ4 hA4
    exact H2.out
  all_goals exact True
end Fm
end Go.Proofs.Ytaoipbndmfjmhaa
