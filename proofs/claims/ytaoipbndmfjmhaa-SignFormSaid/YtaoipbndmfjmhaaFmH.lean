/- SignForm: what is decoded of an encoding, and of others. -/
import Derived.Test.YtaoipbndmfjmhaaFmF
namespace Go.Proofs.Ytaoipbndmfjmhaa
open Go.RowKit Go.Joins
namespace Fm
set_option maxRecDepth 100000 in
set_option maxHeartbeats 8000000 in
theorem ownB : own'.p2 := by
  unfold own'
  intro root d ht f G c l cb hcb w HW n Hn T c19T hn10 zfmRest0 w1 g Hg sh u27 u28 u29 u30 u31 u32 u33 u34 u35 u36 u37 u38 u39 u40 u41 u42 u43 u44 u45 u46 u47 u48 u49 u50 u51 u52 u53 nq w2 hi2 wc u54 u55 u56 u57 u58 u59 u60 u61 m c0T HT hn6 T' EB D hEB FE FD FDs FDl FSa HT2 FTi FTo FTs HD v1 A1 cp1 hcp How zfmOwnB0 zfmOwnB1 u68 u69 u70 u71 u72 u73 u74 u75 u76 u77 u78 u79 u80 u81 u82 u83 u84 u85 nq2 v2 bT4 hB4 hQ4 hA4
  have hD := HD.out
  have hzs := zero_sig
  have hiZ : (Try.prog.info? 34).map (·.size) = some (#[.int .i64 0, .int .u64 0, .int .u64 0, .int .u64 0, .int .u64 0, .int .u64 0, .int .u64 0, .int .u64 0, .int .u64 0, .int .u64 0, .int .u64 0, .int .u64 0, .int .u64 0, .int .u64 0, .int .u64 0, .int .u64 0, .int .u64 0, .int .u64 0, .int .u64 0, .slice none 0 0] : Array Value).size := info_sig
  have hoZ : (#[.int .i64 0, .int .u64 0, .int .u64 0, .int .u64 0, .int .u64 0, .int .u64 0, .int .u64 0, .int .u64 0, .int .u64 0, .int .u64 0, .int .u64 0, .int .u64 0, .int .u64 0, .int .u64 0, .int .u64 0, .int .u64 0, .int .u64 0, .int .u64 0, .int .u64 0, .slice none 0 0] : Array Value).all (·.oneCell') = true := by decide +kernel
  obtain ⟨Z, hZ⟩ : ∃ Z, (#[.int .i64 0, .int .u64 0, .int .u64 0, .int .u64 0, .int .u64 0, .int .u64 0, .int .u64 0, .int .u64 0, .int .u64 0, .int .u64 0, .int .u64 0, .int .u64 0, .int .u64 0, .int .u64 0, .int .u64 0, .int .u64 0, .int .u64 0, .int .u64 0, .int .u64 0, .slice none 0 0] : Array Value) = Z := ⟨_, rfl⟩
  have hZs : Z.size = 20 := by rw [← hZ]; rfl
  rw [hZ] at hzs hiZ hoZ FDs FDl
  clear hZ
  obtain ⟨r, hr⟩ : ∃ r, cb % 20 = r := ⟨_, rfl⟩
  have er : (cb : Int) % 20 = (r : Int) := by omega
  have hr19 : r ≤ 19 := by omega
  obtain ⟨k, hk⟩ : ∃ k, 1 + r = k := ⟨_, rfl⟩
  have ek : (1 : Int) + (r : Int) = (k : Int) := by omega
  have hk0 : 0 < k := by omega
  have hk20 : k ≤ 20 := by omega
  obtain ⟨s, hs⟩ : ∃ s, s + k = D := ⟨D - k, by omega⟩
  have es : (D : Int) - (k : Int) = (s : Int) := by omega
  have hDk : decide (D < k) = false := decide_eq_false (by omega)
  have hD194 : D ≤ 194 := by omega
  have hs0 : s ≤ D := by omega
  have hsc : s ≤ cp1 := by omega
  have hD0 : 0 < D := by omega
  have Hs := Lib.hid hs
  have e18 : (18 : Int) + (n : Int) = ((18 + n : Nat) : Int) := by omega
  have e8 : (8 : Int) * ((18 + n : Nat) : Int) = ((8 * (18 + n) : Nat) : Int) := by omega
  have e2 : (2 : Int) + ((8 * (18 + n) : Nat) : Int) = (D : Int) := by omega
  obtain ⟨x1, hx1⟩ : ∃ x1, 18 + n = x1 := ⟨_, rfl⟩
  rw [hx1] at e18 e8 e2
  obtain ⟨x2, hx2⟩ : ∃ x2, 8 * x1 = x2 := ⟨_, rfl⟩
  rw [hx2] at e8 e2
  have hx1b : x1 ≤ 30 := by omega
  have hx2b : x2 ≤ 300 := by omega
  have hDD : ((D : Int) == (D : Int)) = true := by simp
  obtain ⟨b1, o1, hA1e⟩ : ∃ b1 o1, A1 = some ⟨b1, o1, none⟩ := by
    obtain ⟨b, off, e, _⟩ := hA4 (by intro e; rw [e] at hEB; simp at hEB; omega)
    exact ⟨b, off, e⟩
  subst hA1e
  have hci : ¬ cp1 = 0 := by omega
  have c19 := fun W (h : BoxN W g 34 T) => (h.cell 19).trans c19T
  have C19 := Lib.hid c19
  clear c19 hx1 hx2 hr hk hs hD HD How Hg Hn HT FE c19T c0T
  have HEB := Lib.hid hEB
  clear hEB
  go_wp2_with fail
  (with_reducible refine (FD.out _ _ _ hcp hA4).mono ?_); rintro e v3 ⟨G2, c2, rfl, hQ2, hb1⟩
  replace bT4 := bT4.keep hb1
  replace hQ4 := hQ4.keep hb1
  replace hA4 := hA4.keep hb1
  replace hB4 := hB4.trans (hb1.mono hB4.size)
  clear hb1
  have hXi := FTi.out G2 c2
  have hXo := FTo.out G2 c2
  have hXz : Z.size = (T' G2 c2).size := by rw [FTs.out, hZs]
  have FS := Lib.hid fun (W : World) (h2 : isQ G2 l W) (h : isQ G l W) => FSa.out G2 c2 G c W h2 h
  rw [HT2.out] at FS
  generalize T' G2 c2 = X at *
  have bN := BoxN.new v3 34 Z
  have bX : BoxN ((v3.alloc (.cells Z 34)).setRow v3.heap.size X) v3.heap.size 34 X := bN.setRow _
  have hBy : Below v3.heap.size v3 ((v3.alloc (.cells Z 34)).setRow v3.heap.size X) := below_setRow ((Below.refl _ v3).alloc (Nat.le_refl _) _) (Nat.le_refl _) X
  replace bT4 := bT4.keep hBy
  replace hQ4 := hQ4.keep hBy
  replace hA4 := hA4.keep hBy
  replace hQ2 := hQ2.keep hBy
  replace hB4 := hB4.trans (hBy.mono hB4.size)
  go_wp2_with (refine wpList_store_rowTo rfl 34 _ _ rfl rfl v3.heap.size X rfl rfl _ Z bN hXi hXz hXo ?_)
  clear bN hBy
  generalize (v3.alloc (.cells Z 34)).setRow v3.heap.size X = v4 at bT4 hQ4 hA4 hQ2 bX hB4 ⊢
  generalize v3.heap.size = g3 at bX ⊢
  (with_reducible refine (FDs.out _ _ _ _ _ hk0 hk20 Hs.out hcp hA4).mono ?_); rintro e v5 ⟨rfl, hb1⟩
  replace bT4 := bT4.keep hb1
  replace hQ4 := hQ4.keep hb1
  replace hA4 := hA4.keep hb1
  replace hQ2 := hQ2.keep hb1
  replace bX := bX.keep hb1
  replace hB4 := hB4.trans (hb1.mono hB4.size)
  clear hb1
  have bN := BoxN.new v5 34 Z
  have bZ : BoxN ((v5.alloc (.cells Z 34)).setRow v5.heap.size Z) v5.heap.size 34 Z := bN.setRow _
  have hBy : Below v5.heap.size v5 ((v5.alloc (.cells Z 34)).setRow v5.heap.size Z) := below_setRow ((Below.refl _ v5).alloc (Nat.le_refl _) _) (Nat.le_refl _) Z
  replace bT4 := bT4.keep hBy
  replace hQ4 := hQ4.keep hBy
  replace hA4 := hA4.keep hBy
  replace hQ2 := hQ2.keep hBy
  replace bX := bX.keep hBy
  replace hB4 := hB4.trans (hBy.mono hB4.size)
  go_upto_region 17 with (refine wpList_store_rowTo rfl 34 _ _ rfl rfl v5.heap.size Z rfl rfl _ Z bN hiZ rfl hoZ ?_)
  clear bN hBy
  generalize (v5.alloc (.cells Z 34)).setRow v5.heap.size Z = v6 at bT4 hQ4 hA4 hQ2 bX bZ hB4 ⊢
  generalize v5.heap.size = g5 at bZ ⊢
  have hown0 : (v6.alloc (.cells #[] 5)).ownsRow v6.heap.size 5 1 (.slice (some ⟨v6.heap.size, 0, none⟩) 0 0) 0 (cellsB []) := own_empty v6 (Nat.le_refl _)
  have hBe := (Below.refl v6.heap.size v6).alloc (Nat.le_refl _) (.cells #[] 5)
  have hAe := hA4.keep hBe
  have hze : v6.heap.size ≤ (v6.alloc (.cells #[] 5)).heap.size := by simp
  go_wp2_with (first | (at_builtin; refine app_arm _ rfl _ _ rfl v6.heap.size (some ⟨v6.heap.size, 0, none⟩) 0 0 [] rfl hown0 (some ⟨b1, o1, none⟩) D cp1 EB rfl HEB.out hAe D (Nat.zero_add _) (by omega) hze ?_; intro G6 c6 w6 h6 hb6) | (at_builtin; obtain ⟨G7, c7, w7, hrun7, h7, hb7⟩ := app_zeros_run w6 v6.heap.size D c6 k G6 EB 42 h6 hD0 (by omega) hk0 hk20 (Nat.le_trans hze hb6.size); refine Lib.wpList_append_run _ rfl _ _ _ _ rfl _ _ rfl rfl _ _ hrun7 ?_))
  have hBz := (hBe.trans hb6).trans hb7
  have hcap7 := own_cap h7
  have hA7 : isB G7 (EB ++ List.replicate k 0#8) w7 := by
    refine isB_of_own (base := v6.heap.size) (n := D + k) (c := c7) ?_
    exact h7
  replace bT4 := bT4.keep hBz
  replace hQ4 := hQ4.keep hBz
  replace hA4 := hA4.keep hBz
  replace hQ2 := hQ2.keep hBz
  replace bX := bX.keep hBz
  replace bZ := bZ.keep hBz
  replace hB4 := hB4.trans (hBz.mono hB4.size)
  clear hBz hb6 hb7 h6 h7 hrun7 hBe hAe hze hown0
  (with_reducible refine (FDl.out _ _ _ _ hk0 hk20 hcap7 hA7).mono ?_); rintro e v8 ⟨rfl, hb1⟩
  replace bT4 := bT4.keep hb1
  replace hQ4 := hQ4.keep hb1
  replace hQ2 := hQ2.keep hb1
  replace bX := bX.keep hb1
  replace hB4 := hB4.trans (hb1.mono hB4.size)
  clear hb1
  clear bZ hA4 hA7
  have bN := BoxN.new v8 34 Z
  have bZ : BoxN ((v8.alloc (.cells Z 34)).setRow v8.heap.size Z) v8.heap.size 34 Z := bN.setRow _
  have hBy : Below v8.heap.size v8 ((v8.alloc (.cells Z 34)).setRow v8.heap.size Z) := below_setRow ((Below.refl _ v8).alloc (Nat.le_refl _) _) (Nat.le_refl _) Z
  replace bT4 := bT4.keep hBy
  replace hQ4 := hQ4.keep hBy
  replace hQ2 := hQ2.keep hBy
  replace bX := bX.keep hBy
  replace hB4 := hB4.trans (hBy.mono hB4.size)
  have ldX := Lib.hid (run_loadVar_row (P := Try.prog) _ _ _ 34 _ (0, 0) _ bX Try.underlying34 rfl hXi)
  have ldT := Lib.hid (run_loadVar_row (P := Try.prog) _ _ _ 34 _ (0, 0) _ bT4 Try.underlying34 rfl hi2)
  go_wp2_with (first | (refine wpList_store_rowTo rfl 34 _ _ rfl rfl v8.heap.size Z rfl rfl _ Z bN hiZ rfl hoZ ?_) | (refine wpList_load_sub (by rfl) 34 _ rfl ⟨g3, 0, none⟩ rfl (.agg X) ldX.out ?_) | (refine wpList_load_sub (by rfl) 34 _ rfl ⟨g, 0, none⟩ rfl (.agg T) ldT.out ?_))
  clear bN hBy ldX ldT bZ
  (with_reducible refine (FS.out _ hQ2 hQ4).mono ?_); rintro e v9 ⟨rfl, hb1⟩
  replace bT4 := bT4.keep hb1
  replace hB4 := hB4.trans (hb1.mono hB4.size)
  clear hb1
  have k19 := C19.out _ bT4
  go_wp2_with fail
  (with_reducible refine (HW.out _).mono ?_); rintro e v10 ⟨rfl, hb1⟩
  replace hB4 := hB4.trans (hb1.mono hB4.size)
  clear hb1
  go_wp2_with fail
  go_ret
  exact ⟨rfl, hB4⟩
end Fm
end Go.Proofs.Ytaoipbndmfjmhaa
