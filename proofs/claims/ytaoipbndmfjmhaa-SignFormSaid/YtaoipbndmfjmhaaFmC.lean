/- SignForm: Verify of a signature without the form; up to Encode. -/
import Derived.Test.YtaoipbndmfjmhaaFmA
import Derived.Test.YtaoipbndmfjmhaaVer
namespace Go.Proofs.Ytaoipbndmfjmhaa
open Go.RowKit Go.Joins
namespace Fm
set_option maxRecDepth 100000 in
set_option maxHeartbeats 8000000 in
noncomputable def after : Cut4 step.p2 := by
  refine ⟨?p1, ?p2, ?p3, ?p4, fun H1 H2 H3 H4 => ?main⟩
  case main =>
    unfold step
    intro root d ht q f G c l cb hcb w hQ HW n Hn T c19T c0T HT hn10 zfmRest0 zfmRest1 zfmRest2 w1 hB hQ1 g bT hgl Hg sh Hsh u27 u28 u29 u30 u31 u32 u33 u34 u35 u36 u37 u38 u39 u40 u41 u42 u43 u44 u45 u46 u47 u48 u49 u50 u51 u52 u53 nq
    have bT2 := bT.drewN nq
    have hB2 := below_drewN hB nq
    have hQ2 : isQ G l (w1.drewN nq) := hQ1.keep (below_drewN (Below.refl _ w1) nq)
    generalize w1.drewN nq = w2 at bT2 hB2 hQ2 ⊢
    have hi2 : (Try.prog.info? 34).map (·.size) = some T.size := by rw [← HT.out, sgA_size]; exact info_sig
    have HVn : Hid (sh = false → ∀ W : World, Calls Try.prog 27 #[U64 root, .int .i64 ht, U64 d, .agg T] W fun e w' => e = .returned (.bool false) ∧ Below W.heap.size W w') := fun hf W => by
      have h1 := Hsh.out
      rw [hf, Bool.and_eq_false_iff] at h1
      rw [← HT.out]
      exact verify_no root d ht q f G n c (h1.elim Or.inl fun h2 => Or.inr (of_decide_eq_false h2)) W
    clear bT hB hQ1 hQ hgl Hsh
    go_upto_region 4 with fail
    go_cut [62] from 54 to 62 (fun s62 wx => s62 = .bool false ∧ BoxN wx g 34 T ∧ isQ G l wx ∧ Below w.heap.size w wx)
    case first =>
      cases sh with
      | true =>
        go_wp2_with fail
        go_meet
        exact ⟨rfl, bT2, hQ2, hB2⟩
      | false =>
        have HV := Lib.hid (HVn.out rfl)
        have ldX := Lib.hid (run_loadVar_row (P := Try.prog) _ _ _ 34 _ (0, 0) _ bT2 Try.underlying34 rfl hi2)
        go_wp2_with (refine wpList_load_sub (by rfl) 34 _ rfl ⟨g, 0, none⟩ rfl (.agg T) ldX.out ?_)
        (with_reducible refine (HV.out _).mono ?_); rintro e w3 ⟨rfl, hb1⟩
        replace bT2 := bT2.keep hb1
        replace hQ2 := hQ2.keep hb1
        replace hB2 := hB2.trans (hb1.mono hB2.size)
        clear hb1 ldX
        go_wp2_with fail
        go_meet
        exact ⟨rfl, bT2, hQ2, hB2⟩
    case rest =>
    obtain ⟨hs62, bT3, hQ3, hB3⟩ := hcut
    subst hs62
    clear bT2 hQ2 hB2 HVn
    have ldX := Lib.hid (run_loadVar_row (P := Try.prog) _ _ _ 34 _ (0, 0) _ bT3 Try.underlying34 rfl hi2)
    go_wp2_with (refine wpList_load_sub (by rfl) 34 _ rfl ⟨g, 0, none⟩ rfl (.agg T) ldX.out ?_)
    clear ldX
    by_cases how : okK q (n : Int) = true
    ·
      rename_i zfmOwn0 zfmOwn1 zfmOwn2 zfmOwn3
      clear H2 H3 H4
      revert root d ht q f G c l cb hcb w HW n Hn T c19T c0T HT hn10 zfmRest0 w1 g Hg sh u27 u28 u29 u30 u31 u32 u33 u34 u35 u36 u37 u38 u39 u40 u41 u42 u43 u44 u45 u46 u47 u48 u49 u50 u51 u52 u53 nq w2 hi2 wc u54 u55 u56 u57 u58 u59 u60 u61 bT3 hQ3 hB3 zfmOwn0 zfmOwn1 zfmOwn2 zfmOwn3 how
      exact H1.out
    ·
      rename_i zfmNot0 zfmNot1 zfmNot2 zfmNot3
      clear H1 H3 H4
      revert root d ht q f G c l cb hcb w HW n Hn T c19T c0T HT hn10 zfmRest0 w1 g Hg sh u27 u28 u29 u30 u31 u32 u33 u34 u35 u36 u37 u38 u39 u40 u41 u42 u43 u44 u45 u46 u47 u48 u49 u50 u51 u52 u53 nq w2 hi2 wc u54 u55 u56 u57 u58 u59 u60 u61 bT3 hQ3 hB3 zfmNot0 zfmNot1 zfmNot2 zfmNot3 how
      exact H2.out
  all_goals exact True
end Fm
end Go.Proofs.Ytaoipbndmfjmhaa
