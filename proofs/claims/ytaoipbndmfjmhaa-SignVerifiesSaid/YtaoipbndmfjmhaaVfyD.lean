/- SignVerifies: a round with a key left. -/
import Derived.Test.YtaoipbndmfjmhaaVfyB
import Derived.Test.YtaoipbndmfjmhaaVfyK
namespace Go.Proofs.Ytaoipbndmfjmhaa
open Go.RowKit Go.Joins
namespace Vfy
set_option maxRecDepth 100000 in
set_option maxHeartbeats 8000000 in
theorem left : round.p1 := by
  unfold round
  intro seed hb _ cap w h hh2 em R HRt L hlen hcap Q' g hgw N hsh2 hsh hN4 hN0 hhm HNp M hM hM5 hML hMc K wr u6 u12 u13 u14 u15 u16 u17 u18 u19 u20 u21 u56 u57 u58 u59 u60 u61 u62 u63 u64 u65 u66 u67 u68 u69 u70 u71 u72 u73 u74 u75 u76 u77 u78 u79 u80 u81 u82 u83 u84 u85 u86 u87 u88 u89 u90 u91 u92 u93 u94 u95 u96 u97 u98 u99 u100 u101 u102 u103 u104 u105 u106 u107 u108 u109 u110 u111 u112 u113 u114 u115 u116 u117 u118 u119 u120 u121 u122 u123 u124 u125 u126 u127 u128 u129 u130 u131 u132 u133 u134 u135 u136 u137 u138 z b' off' u lf KA KB KC w4 hB bS hk QL fA fB fC hkN hM'
  obtain ⟨T, PV, D, EB, hD, fT, fM, fS, fE, fD, fSa, fV⟩ := kit seed z h u (by omega) (by rw [HNp.out]; exact hkN)
  rw [HRt.out] at fV
  have Hsh := Lib.hid (And.intro hsh hsh2)
  clear hsh hsh2
  have FM := Lib.hid fM
  have FS := Lib.hid fS
  have FE := Lib.hid fE
  have FD := Lib.hid fD
  have FSa := Lib.hid fSa
  have FV := Lib.hid fV
  have fTs : Hid (∀ G c, (Try.prog.info? 34).map (·.size) = some (T G c).size) := fun G c => by rw [(fT G c).1]; exact info_sig
  have FT := Lib.hid fT
  clear fT fM fS fE fD fSa fV
  have hzs := zero_sig
  obtain ⟨Z, hZ⟩ : ∃ Z, (#[.int .i64 0, .int .u64 0, .int .u64 0, .int .u64 0, .int .u64 0, .int .u64 0, .int .u64 0, .int .u64 0, .int .u64 0, .int .u64 0, .int .u64 0, .int .u64 0, .int .u64 0, .int .u64 0, .int .u64 0, .int .u64 0, .int .u64 0, .int .u64 0, .int .u64 0, .slice none 0 0] : Array Value) = Z := ⟨_, rfl⟩
  have hZs : Z.size = 20 := by rw [← hZ]; rfl
  rw [hZ] at hzs
  have FZ : Hid (∀ G c, Z.size = (T G c).size) := fun G c => by rw [(FT.out G c).1]; exact hZs
  have hukn : ¬ N ≤ u := by omega
  have hgek : decide (N ≤ u) = false := decide_eq_false hukn
  have hmk : Hid (min (u + 1) N = u + 1) := Nat.min_eq_left (by omega)
  have hne : ((u : Int) != (u : Int)) = false := by simp
  clear hZ hM hML hMc hlen hcap hZs
  have hgl := bS.lt
  obtain ⟨hsh, hsh2⟩ := Hsh.out
  go_wp2_with fail
  (with_reducible refine (FM.out _ _ bS).mono ?_); rintro r w1 ⟨G1, c1, rfl, hQ1, bS1, hb1⟩
  replace hB := hB.trans (hb1.mono hgw)
  replace bS := bS1
  clear hb1 bS1

  obtain ⟨X, hX⟩ : ∃ X, T G1 c1 = X := ⟨_, rfl⟩
  have HX := Lib.hid hX
  have hX0 := (FT.out G1 c1).2.2
  have hXo := (FT.out G1 c1).2.1
  have hXi := fTs.out G1 c1
  have hXz := FZ.out G1 c1
  rw [hX] at hX0 hXo hXi hXz ⊢
  clear hX
  have bN := BoxN.new w1 34 Z
  have bX : BoxN ((w1.alloc (.cells Z 34)).setRow w1.heap.size X) w1.heap.size 34 X := bN.setRow _
  have hBy : Below w1.heap.size w1 ((w1.alloc (.cells Z 34)).setRow w1.heap.size X) := below_setRow ((Below.refl _ w1).alloc (Nat.le_refl _) _) (Nat.le_refl _) X
  replace bS := bS.keep hBy
  replace hQ1 := hQ1.keep hBy
  replace hB := hB.trans (hBy.mono hB.size)
  go_wp2_with (refine wpList_store_rowTo rfl 34 _ _ rfl rfl w1.heap.size X rfl rfl _ Z bN hXi hXz hXo ?_)
  clear bN hBy
  generalize (w1.alloc (.cells Z 34)).setRow w1.heap.size X = v1 at bX bS hQ1 hB ⊢
  generalize w1.heap.size = g1 at bX ⊢
  (with_reducible refine (FS.out _).mono ?_); rintro r w2 ⟨G2, c2, rfl, hQ2, hb2⟩
  replace bX := bX.keep hb2
  replace bS := bS.keep hb2
  replace hQ1 := hQ1.keep hb2
  replace hB := hB.trans (hb2.mono hB.size)
  clear hb2
  obtain ⟨Y, hY⟩ : ∃ Y, T G2 c2 = Y := ⟨_, rfl⟩
  have HY := Lib.hid hY
  have hY0 := (FT.out G2 c2).2.2
  have hYo := (FT.out G2 c2).2.1
  have hYi := fTs.out G2 c2
  have hYz := FZ.out G2 c2
  rw [hY] at hY0 hYo hYi hYz ⊢
  clear hY
  have bN := BoxN.new w2 34 Z
  have bY : BoxN ((w2.alloc (.cells Z 34)).setRow w2.heap.size Y) w2.heap.size 34 Y := bN.setRow _
  have hBy : Below w2.heap.size w2 ((w2.alloc (.cells Z 34)).setRow w2.heap.size Y) := below_setRow ((Below.refl _ w2).alloc (Nat.le_refl _) _) (Nat.le_refl _) Y
  replace bX := bX.keep hBy
  replace bS := bS.keep hBy
  replace hQ1 := hQ1.keep hBy
  replace hQ2 := hQ2.keep hBy
  replace hB := hB.trans (hBy.mono hB.size)
  have ldX := Lib.hid (run_loadVar_row (P := Try.prog) _ _ _ 34 _ (0, 0) _ bX Try.underlying34 rfl hXi)
  go_wp2_with (first | (refine wpList_store_rowTo rfl 34 _ _ rfl rfl w2.heap.size Y rfl rfl _ Z bN hYi hYz hYo ?_) | (refine wpList_load_sub (by rfl) 34 _ rfl ⟨g1, 0, none⟩ rfl (.agg X) ldX.out ?_))
  clear bN hBy ldX
  generalize (w2.alloc (.cells Z 34)).setRow w2.heap.size Y = v2 at bX bY bS hQ1 hQ2 hB ⊢
  generalize w2.heap.size = g2 at bY ⊢
  have hEn := FE.out G1 c1 _ hQ1
  rw [HX.out] at hEn
  (with_reducible refine hEn.mono ?_); rintro r w3 ⟨A3, cp3, rfl, hE3, hb3, hcp⟩
  replace bX := bX.keep hb3
  replace bY := bY.keep hb3
  replace bS := bS.keep hb3
  replace hQ1 := hQ1.keep hb3
  replace hQ2 := hQ2.keep hb3
  replace hB := hB.trans (hb3.mono hB.size)
  clear hb3 hEn
  go_wp2_with fail
  (with_reducible refine (FD.out _ _ _ hcp hE3).mono ?_); rintro r w5 ⟨G3, c3, rfl, hQ3, hb5⟩
  replace bX := bX.keep hb5
  replace bY := bY.keep hb5
  replace bS := bS.keep hb5
  replace hQ1 := hQ1.keep hb5
  replace hQ2 := hQ2.keep hb5
  replace hB := hB.trans (hb5.mono hB.size)
  clear hb5 hE3
  obtain ⟨V, hV⟩ : ∃ V, T G3 c3 = V := ⟨_, rfl⟩
  have HV := Lib.hid hV
  have hV0 := (FT.out G3 c3).2.2
  have hVo := (FT.out G3 c3).2.1
  have hVi := fTs.out G3 c3
  have hVz := FZ.out G3 c3
  rw [hV] at hV0 hVo hVi hVz ⊢
  clear hV
  have bN := BoxN.new w5 34 Z
  have bV : BoxN ((w5.alloc (.cells Z 34)).setRow w5.heap.size V) w5.heap.size 34 V := bN.setRow _
  have hBy : Below w5.heap.size w5 ((w5.alloc (.cells Z 34)).setRow w5.heap.size V) := below_setRow ((Below.refl _ w5).alloc (Nat.le_refl _) _) (Nat.le_refl _) V
  replace bX := bX.keep hBy
  replace bY := bY.keep hBy
  replace bS := bS.keep hBy
  replace hQ1 := hQ1.keep hBy
  replace hQ2 := hQ2.keep hBy
  replace hQ3 := hQ3.keep hBy
  replace hB := hB.trans (hBy.mono hB.size)
  have cX := bX.cell 0
  rw [hX0] at cX
  have ldX := Lib.hid (run_loadVar_row (P := Try.prog) _ _ _ 34 _ (0, 0) _ bX Try.underlying34 rfl hXi)
  have ldY := Lib.hid (run_loadVar_row (P := Try.prog) _ _ _ 34 _ (0, 0) _ bY Try.underlying34 rfl hYi)
  go_wp2_with (first | (refine wpList_store_rowTo rfl 34 _ _ rfl rfl w5.heap.size V rfl rfl _ Z bN hVi hVz hVo ?_) | (refine wpList_load_sub (by rfl) 34 _ rfl ⟨g1, 0, none⟩ rfl (.agg X) ldX.out ?_) | (refine wpList_load_sub (by rfl) 34 _ rfl ⟨g2, 0, none⟩ rfl (.agg Y) ldY.out ?_))
  clear bN hBy ldX ldY cX
  generalize (w5.alloc (.cells Z 34)).setRow w5.heap.size V = v5 at bX bY bV bS hQ1 hQ2 hQ3 hB ⊢
  generalize w5.heap.size = g3 at bV ⊢
  have hSa := FSa.out G1 c1 G2 c2 _ hQ1 hQ2
  rw [HX.out, HY.out] at hSa
  (with_reducible refine hSa.mono ?_); rintro r w6 ⟨rfl, hb6⟩
  replace bX := bX.keep hb6
  replace bY := bY.keep hb6
  replace bV := bV.keep hb6
  replace bS := bS.keep hb6
  replace hQ1 := hQ1.keep hb6
  replace hQ2 := hQ2.keep hb6
  replace hQ3 := hQ3.keep hb6
  replace hB := hB.trans (hb6.mono hB.size)
  clear hb6 hSa
  have ldX := Lib.hid (run_loadVar_row (P := Try.prog) _ _ _ 34 _ (0, 0) _ bX Try.underlying34 rfl hXi)
  have ldV := Lib.hid (run_loadVar_row (P := Try.prog) _ _ _ 34 _ (0, 0) _ bV Try.underlying34 rfl hVi)
  go_wp2_with (first | (refine wpList_load_sub (by rfl) 34 _ rfl ⟨g1, 0, none⟩ rfl (.agg X) ldX.out ?_) | (refine wpList_load_sub (by rfl) 34 _ rfl ⟨g3, 0, none⟩ rfl (.agg V) ldV.out ?_))
  clear ldX ldV
  have hSa := FSa.out G3 c3 G1 c1 _ hQ3 hQ1
  rw [HX.out, HV.out] at hSa
  (with_reducible refine hSa.mono ?_); rintro r w7 ⟨rfl, hb7⟩
  replace bX := bX.keep hb7
  replace bS := bS.keep hb7
  replace hQ1 := hQ1.keep hb7
  replace hB := hB.trans (hb7.mono hB.size)
  clear hb7 hSa bY bV hQ2 hQ3
  have ldX := Lib.hid (run_loadVar_row (P := Try.prog) _ _ _ 34 _ (0, 0) _ bX Try.underlying34 rfl hXi)
  go_wp2_with (refine wpList_load_sub (by rfl) 34 _ rfl ⟨g1, 0, none⟩ rfl (.agg X) ldX.out ?_)
  clear ldX
  have hVe := FV.out G1 c1 _ hQ1
  rw [HX.out] at hVe
  (with_reducible refine hVe.mono ?_); rintro r w8 ⟨rfl, hb8⟩
  replace bS := bS.keep hb8
  replace hB := hB.trans (hb8.mono hB.size)
  clear hb8 hVe bX hQ1
  replace bS := Lib.hid bS
  replace hB := Lib.hid hB
  go_wp2_with fail
  clear hsh hsh2
  go_roundw
  case rel => exact ⟨u + 1, by omega, by go_num, by rw [hmk.out]; exact bS.out, hB.out⟩
  case measure => simp [intOf]; omega
end Vfy
end Go.Proofs.Ytaoipbndmfjmhaa
