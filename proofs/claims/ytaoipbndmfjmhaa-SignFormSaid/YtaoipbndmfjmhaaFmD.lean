/- SignForm: a signature that has no encoding. -/
import Derived.Test.YtaoipbndmfjmhaaFmC
namespace Go.Proofs.Ytaoipbndmfjmhaa
open Go.RowKit Go.Joins
namespace Fm
set_option maxRecDepth 100000 in
set_option maxHeartbeats 8000000 in
noncomputable def notown : Cut4 after.p2 := by
  refine ⟨?p1, ?p2, ?p3, ?p4, fun H1 H2 H3 H4 => ?main⟩
  case main =>
    unfold after
    intro root d ht q f G c l cb hcb w HW n Hn T c19T c0T HT hn10 zfmRest0 w1 g Hg sh u27 u28 u29 u30 u31 u32 u33 u34 u35 u36 u37 u38 u39 u40 u41 u42 u43 u44 u45 u46 u47 u48 u49 u50 u51 u52 u53 nq w2 hi2 wc u54 u55 u56 u57 u58 u59 u60 u61 bT3 hQ3 hB3 zfmNot0 zfmNot1 zfmNot2 zfmNot3 how
    have hf : okK q (n : Int) = false := by simpa using how
    have HE : Hid (∀ W : World, Calls Try.prog 23 #[.agg T] W fun e w' => e = .returned (.tuple #[.slice none 0 0, .int .i64 2]) ∧ Below W.heap.size W w') := fun W => by
      rw [← HT.out]; exact encode_bad q f G n c hf W
    have Hf := Lib.hid hf
    clear how hf
    (with_reducible refine (HE.out _).mono ?_); rintro e v1 ⟨rfl, hb1⟩
    replace bT3 := bT3.keep hb1
    replace hB3 := hB3.trans (hb1.mono hB3.size)
    clear hb1
    have k0 := bT3.cell 0
    have k19 := bT3.cell 19
    rw [c0T] at k0
    rw [c19T] at k19
    have hgl := bT3.lt
    go_upto_region 7 with fail
    go_cut [14] from 68 to 85 (fun s14 wx => s14 = .bool false ∧ ∃ nq, wx = v1.drewN nq)
    case first =>
      rename_i zfmNotA0 zfmNotA1 zfmNotA2 zfmNotA3 zfmNotA4 zfmNotA5
      clear H2 H3 H4
      revert root d ht q f G c l cb hcb w HW n Hn T c19T c0T HT hn10 zfmRest0 w1 g Hg sh u27 u28 u29 u30 u31 u32 u33 u34 u35 u36 u37 u38 u39 u40 u41 u42 u43 u44 u45 u46 u47 u48 u49 u50 u51 u52 u53 nq w2 hi2 wc u54 u55 u56 u57 u58 u59 u60 u61 hQ3 HE Hf v1 bT3 hB3 k0 k19 hgl zfmNotA0 zfmNotA1 zfmNotA2 zfmNotA3 zfmNotA4 zfmNotA5
      exact H1.out
    case rest =>
    obtain ⟨hs14, nq2, rfl⟩ := hcut
    subst hs14
    clear k0 k19
    have hB4 := below_drewN hB3 nq2
    generalize v1.drewN nq2 = v2 at hB4 ⊢
    go_wp2_with fail
    (with_reducible refine (HW.out _).mono ?_); rintro e v3 ⟨rfl, hb1⟩
    go_wp2_with fail
    go_ret
    exact ⟨rfl, hB4.trans (hb1.mono hB4.size)⟩
  all_goals exact True
theorem notA : True := trivial
end Fm
end Go.Proofs.Ytaoipbndmfjmhaa
