/- The reference's Sign, up to a round of its second loop. -/
import Derived.Test.YtaoipbndmfjmhaaRfC
import Derived.Test.YtaoipbndmfjmhaaRfF
import Derived.Test.YtaoipbndmfjmhaaDecOk
import Derived.Test.YtaoipbndmfjmhaaSign
import Derived.Test.YtaoipbndmfjmhaaCut4
namespace Go.Proofs.Ytaoipbndmfjmhaa
open Go.RowKit Go.Joins
theorem fold_key (q : Int) (f : Nat → BitVec 64) : (#[.int .i64 0, .int .u64 0, .int .u64 0, .int .u64 0, .int .u64 0, .int .u64 0, .int .u64 0, .int .u64 0, .int .u64 0, .int .u64 0, .int .u64 0, .int .u64 0, .int .u64 0, .int .u64 0, .int .u64 0, .int .u64 0, .int .u64 0, .int .u64 0, .int .u64 0, .slice none 0 0] : Array Value).setIfInBounds 0 (.int .i64 q) = sgA q (fK f 0) (.slice none 0 0) := by kernel_rfl
namespace RSg
set_option maxRecDepth 100000 in
set_option maxHeartbeats 8000000 in
noncomputable def step : Cut4 (∀ (seed d : BitVec 64) (h q : Nat) (_ : h ≤ 6) (_ : q < 2 ^ h) (w : World),
    Calls Try.prog 22 #[U64 seed, .int .i64 h, .int .i64 q, U64 d] w fun e w' => ∃ G c, e = .returned (.agg (sgA q (chainV seed d q) (.slice G h c))) ∧ isQ G (pathV seed h q) w' ∧ Below w.heap.size w w') := by
  refine ⟨?p1, ?p2, ?p3, ?p4, fun H1 H2 H3 H4 => ?main⟩
  case main =>
    intro seed d h q hh hq w
    have HD : Hid (∀ W : World, _) := fun W => rdigits_any d W
    have HV : Hid (∀ (k : Nat) (W : World), Calls Try.prog 41 #[U64 seed, .int .i64 q, .int .i64 k, .int .i64 (digN d k)] W fun e w' => e = .returned (U64 (chainV seed d q k)) ∧ Below W.heap.size W w') := fun k W => rval_any seed q k (digN d k) (by have := digN_lt d k; omega) W
    have HN : Hid (∀ (j i : Nat) (_ : (i + 1) * 2 ^ j ≤ 1024) (W : World), _) := fun j i hl W => rnode_any seed j i hl W
    have HT : Hid (∀ k, k < 18 → (rowI (digN d) 18)[k]? = some (.int .i64 (digN d k))) := fun k hk => rowI_get _ _ _ hk
    have hTi : (Try.prog.info? 24).map (·.size) = some (rowI (digN d) 18).size := by rw [rowI_size]; exact info_tI
    have hTo := rowI_one (digN d) 18
    have hTs : (rowI (digN d) 18).size = 18 := rowI_size _ _
    obtain ⟨f, hf⟩ : ∃ f : Nat → BitVec 64, chainV seed d q = f := ⟨_, rfl⟩
    simp only [hf] at HV ⊢
    clear hf
    have eZ := fold_key (q : Int) f
    have hzs := zero_sig
    have hzi := zero_tI fun _ => .int .i64 0
    obtain ⟨Z, hZ⟩ : ∃ Z, (#[.int .i64 0, .int .u64 0, .int .u64 0, .int .u64 0, .int .u64 0, .int .u64 0, .int .u64 0, .int .u64 0, .int .u64 0, .int .u64 0, .int .u64 0, .int .u64 0, .int .u64 0, .int .u64 0, .int .u64 0, .int .u64 0, .int .u64 0, .int .u64 0, .int .u64 0, .slice none 0 0] : Array Value) = Z := ⟨_, rfl⟩
    obtain ⟨O, hO⟩ : ∃ O, parV 18 (fun _ => Value.int .i64 0) (.int .i64 0) 0 = O := ⟨_, rfl⟩
    have hZs : Z.size = 20 := by rw [← hZ]; rfl
    have hOs : O.size = 18 := by rw [← hO, parV_size]
    rw [hZ] at hzs eZ
    rw [hO] at hzi
    clear hZ hO
    obtain ⟨R, hR⟩ : ∃ R : Nat → Array Value, (fun k => sgA q (fK f k) (.slice none 0 0)) = R := ⟨_, rfl⟩
    rw [show sgA q (fK f 0) (.slice none 0 0) = R 0 from congrFun hR 0] at eZ
    have HR : Hid (∀ k, R k = sgA q (fK f k) (.slice none 0 0)) := fun k => (congrFun hR k).symm
    have hRs : (R 0).size = 20 := by rw [HR.out, sgA_size]
    have hiR : (Try.prog.info? 34).map (·.size) = some (R 0).size := by rw [hRs]; exact info_sig
    have hoR : (R 0).all (·.oneCell') = true := by rw [HR.out]; exact sgA_one _ _ _ rfl
    have hsR : Z.size = (R 0).size := by rw [hRs, hZs]
    have hZn : ¬ (Z = #[]) := fun e => by rw [e] at hZs; simp at hZs
    have hZ20 : 0 < Z.size := by omega
    clear hR
    generalize rowI (digN d) 18 = T at *
    have hsT : O.size = T.size := by rw [hOs, hTs]
    go_enter Try.func22, Try.ntmps22
    have b8 : BoxN (w.alloc (.cells Z 34)) w.heap.size 34 Z := BoxN.new w _ _
    have hB : Below w.heap.size w (w.alloc (.cells Z 34)) := (Below.refl _ w).alloc (Nat.le_refl _) _
    have bN : BoxN ((w.alloc (.cells Z 34)).alloc (.cells Z 34)) (w.heap.size + 1) 34 Z := by
      have := BoxN.new (w.alloc (.cells Z 34)) 34 Z
      rwa [World.size_alloc] at this
    go_wp2_with (refine wpList_store_rowTo rfl 34 _ _ rfl rfl (w.heap.size + 1) (R 0) rfl rfl _ Z bN hiR hsR hoR ?_)
    have bS : BoxN (((w.alloc (.cells Z 34)).alloc (.cells Z 34)).setRow (w.heap.size + 1) (R 0)) (w.heap.size + 1) 34 (R 0) := bN.setRow _
    replace b8 := (b8.alloc (.cells Z 34)).farRow (g := w.heap.size + 1) (by omega) (R 0)
    replace hB := below_setRow (hB.alloc (by simp) (.cells Z 34)) (show w.heap.size ≤ w.heap.size + 1 by omega) (R 0)
    generalize ((w.alloc (.cells Z 34)).alloc (.cells Z 34)).setRow (w.heap.size + 1) (R 0) = w1 at b8 bS hB ⊢
    obtain ⟨gS, hgS⟩ : ∃ gS, w.heap.size + 1 = gS := ⟨_, rfl⟩
    rw [hgS] at bS ⊢
    clear bN hiR hsR hoR eZ hZ20
    (with_reducible refine (HD.out _).mono ?_); rintro e w2 ⟨rfl, hb2⟩
    replace b8 := b8.keep hb2
    replace bS := bS.keep hb2
    replace hB := hB.trans (hb2.mono hB.size)
    clear hb2
    have bO := BoxN.new w2 24 O
    have bT : BoxN ((w2.alloc (.cells O 24)).setRow w2.heap.size T) w2.heap.size 24 T := bO.setRow _
    have hBy : Below w2.heap.size w2 ((w2.alloc (.cells O 24)).setRow w2.heap.size T) := below_setRow ((Below.refl _ w2).alloc (Nat.le_refl _) _) (Nat.le_refl _) T
    have hSD : gS < w2.heap.size := bS.lt
    replace b8 := b8.keep hBy
    replace bS := bS.keep hBy
    replace hB := hB.trans (hBy.mono hB.size)
    go_wp2_with (refine wpList_store_rowTo rfl 24 _ _ rfl rfl w2.heap.size T rfl rfl _ O bO hTi hsT hTo ?_)
    generalize (w2.alloc (.cells O 24)).setRow w2.heap.size T = w3 at b8 bS bT hB ⊢
    generalize w2.heap.size = gD at bT hSD ⊢
    clear bO hBy hTi hTo hTs hsT hzs hzi hOs
    go_loopw [11] (fun i wr => ∃ k : Nat, k ≤ 18 ∧ i = .int .i64 k ∧ BoxN wr gS 34 (R k) ∧ BoxN wr gD 24 T ∧ BoxN wr w.heap.size 34 Z ∧ Below w.heap.size w wr)
      (fun i _ => (18 - intOf i).toNat)
    case atStart => exact ⟨0, by omega, rfl, bS, bT, b8, hB⟩
    case round =>
      clear bS bT b8 hB
      obtain ⟨k, hk, rfl, bS, bT, b8, hB⟩ := hrel
      by_cases hlt : k < 18
      · have hd : decide ((k : Int) < 18) = true := by simp; omega
        have hs : Hid ((R k).setIfInBounds (1 + k) (U64 (f k)) = R (k + 1)) := by unfold Hid; rw [HR.out, HR.out]; exact sgA_step q f _ k hlt
        have hcS : Hid (∀ W, BoxN W gS 34 (R k) → W.cell? ⟨gS, 1 + k, none⟩ = some (U64 (fK f k k))) := fun W h => by
          rw [h.cell, HR.out, sgA_chain _ _ _ _ hlt]
        have cT := bT.cell k
        rw [HT.out k hlt] at cT
        have HVk := Lib.hid (HV.out k)
        have hki : (k : Int) < 18 := by omega
        generalize f k = x at *
        generalize fK f k k = x0 at *
        generalize digN d k = dk at *
        go_wp2_with fail
        (with_reducible refine (HVk.out _).mono ?_); rintro e w2 ⟨rfl, hb2⟩
        replace bS := bS.keep hb2
        replace bT := bT.keep hb2
        replace b8 := b8.keep hb2
        replace hB := hB.trans (hb2.mono hB.size)
        have c0 := hcS.out _ bS
        have f0 := bS.frozen (1 + k)
        have hgl := bS.lt
        clear hb2 cT
        go_wp2_with fail
        have b1 := bS.set1 (1 + k) (U64 x)
        rw [hs.out] at b1
        refine ⟨⟨k + 1, by omega, by go_num, b1, bT.far (by simp; omega) _, b8.far (by simp; omega) _, hB.setCell (by simp; omega) _⟩, ?_⟩
        simp [intOf]; omega
      · obtain rfl : k = 18 := by omega
        have hR18 : R 18 = sgA q f (.slice none 0 0) := by rw [HR.out]; exact sgA_congr _ fun i hi => by unfold fK; rw [if_pos hi]
        rw [hR18] at bS
        have hDl := bT.lt
        clear hlt hk hR18 HR bT
        obtain ⟨Sg, hSg⟩ : ∃ Sg : Value → Array Value, sgA q f = Sg := ⟨_, rfl⟩
        rw [hSg] at bS
        have HSg := Lib.hid hSg
        clear hSg
        go_wp2_with fail
        obtain ⟨S, hS⟩ : ∃ S, gD + 1 = S := ⟨_, rfl⟩
        have hSl : S ≤ wr.heap.size := by omega
        have hHS : gS < S ∧ w.heap.size < gS := by omega
        go_loopw [12, 13] (fun x j wr => ∃ (n m : Nat) (G : Option Addr) (c : Nat), n ≤ h ∧ m = q / 2 ^ n ∧ j = .int .i64 n ∧ x = .int .i64 m ∧ BoxN wr gS 34 (Sg (.slice G n c)) ∧ wr.ownsRow S 22 1 (.slice G n c) n (((pathV seed h q).take n).map U64) ∧ S ≤ wr.heap.size ∧ BoxN wr w.heap.size 34 Z ∧ Below w.heap.size w wr)
          (fun _ j _ => (h - intOf j).toNat)
        case atStart => exact ⟨0, q, none, 0, by omega, by simp, rfl, rfl, bS, ⟨rfl, .inl ⟨rfl, rfl⟩⟩, hSl, b8, hB⟩
        case round =>
          clear bS b8 hB hSl
          obtain ⟨n, m, G, c, hn, hm, rfl, rfl, bS, hown, hSl, b8, hB⟩ := hrel
          by_cases hlt : n < h
          ·
            rename_i zrsRound0 zrsRound1 zrsRound2 zrsRound3 zrsRound4 zrsRound5 zrsRound6 zrsRound7
            clear H2 H3 H4
            revert seed d h q hh hq w HN f HV Z O hZs R hRs hZn T HD HT zrsRound0 w1 gS hgS w2 zrsRound1 w3 gD hSD zrsRound2 u18 u19 u20 u21 u22 u23 u24 u25 u26 u27 u28 u29 u30 u31 hDl Sg HSg zrsRound3 zrsRound4 zrsRound5 zrsRound6 zrsRound7 S hS hHS wr u33 u34 u35 u36 u37 u38 u39 u40 u41 u42 u43 u44 u45 u46 u47 u48 u49 u50 u51 u52 u53 u54 u55 u56 u57 u58 u59 u60 u61 u62 n m G c hn hm bS hown hSl b8 hB hlt
            exact H1.out
          ·
            rename_i zrsEnd0 zrsEnd1 zrsEnd2 zrsEnd3 zrsEnd4 zrsEnd5 zrsEnd6 zrsEnd7
            clear H1 H3 H4
            revert seed d h q hh hq w HN f HV Z O hZs R hRs hZn T HD HT zrsEnd0 w1 gS hgS w2 zrsEnd1 w3 gD hSD zrsEnd2 u18 u19 u20 u21 u22 u23 u24 u25 u26 u27 u28 u29 u30 u31 hDl Sg HSg zrsEnd3 zrsEnd4 zrsEnd5 zrsEnd6 zrsEnd7 S hS hHS wr u33 u34 u35 u36 u37 u38 u39 u40 u41 u42 u43 u44 u45 u46 u47 u48 u49 u50 u51 u52 u53 u54 u55 u56 u57 u58 u59 u60 u61 u62 n m G c hn hm bS hown hSl b8 hB hlt
            exact H2.out
  all_goals exact True
end RSg
end Go.Proofs.Ytaoipbndmfjmhaa
