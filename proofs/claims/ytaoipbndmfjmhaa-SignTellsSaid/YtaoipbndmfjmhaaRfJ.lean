/- The reference's Sign: the drawn region of a round (odd; genrsign.py). -/
import Derived.Test.YtaoipbndmfjmhaaRfH
namespace Go.Proofs.Ytaoipbndmfjmhaa
open Go.RowKit Go.Joins
namespace RSg
set_option maxRecDepth 100000 in
set_option maxHeartbeats 8000000 in
theorem odd : round.p2 := by
  unfold round
  intro seed d h q hh hq w HN f HV Z O hZs R hRs hZn T HD HT zrsRound0 w1 gS hgS w2 zrsRound1 w3 gD hSD zrsRound2 u18 u19 u20 u21 u22 u23 u24 u25 u26 u27 u28 u29 u30 u31 hDl Sg HSg zrsRound3 zrsRound4 zrsRound5 zrsRound6 zrsRound7 S hS hHS wr u33 u34 u35 u36 u37 u38 u39 u40 u41 u42 u43 u44 u45 u46 u47 u48 u49 u50 u51 u52 u53 u54 u55 u56 u57 u58 u59 u60 u61 u62 n m G c hn bS hown hSl b8 hB hlt hd hm64 hm hpar e2 e3 zrsOdd0 zrsOdd1 zrsOdd2 zrsOdd3 zrsOdd4
  obtain ⟨i0, hi, hz0, hz1, hz2⟩ := info_parts infoQ
  have hpow : 2 ^ n * (m + 1) ≤ q + 2 ^ n ∧ 2 ^ n * m ≤ q := by
    have h1 := Nat.div_mul_le_self q (2 ^ n)
    rw [← hm.out, Nat.mul_comm] at h1
    rw [Nat.mul_add]
    omega
  obtain ⟨s, hs⟩ : ∃ s, m - 1 = s := ⟨_, rfl⟩
  have es : (m : Int) - 1 = (s : Int) := by omega
  have hs64 : s ≤ 64 := by omega
  have ws : IntKind.i64.wrap (s : Int) = (s : Int) := IntWalk.i64_in _ (by omega)
  have hnh : Hid (node seed h n (sib q n) = nd seed n s) := by
    have hsb : sib q n = s := by unfold sib; rw [← hm.out]; rw [if_neg hpar]; exact hs
    unfold Hid
    rw [hsb]
    have hlt2 : s < 2 ^ (h - n) := by
      have h1 : m < 2 ^ (h - n) := by
        rw [hm.out]
        exact Nat.div_lt_of_lt_mul (by rw [← Nat.pow_add, show n + (h - n) = h by omega]; exact hq)
      have h2 : 2 ^ (h - n) = 2 * 2 ^ (h - n - 1) := by
        rw [show h - n = (h - n - 1) + 1 by omega, Nat.pow_succ]; simp; omega
      omega
    exact nd_node seed h n s (by omega) hlt2
  have hs1 : (s + 1) * 2 ^ n ≤ 1024 := by
    have hlt2 : s < 2 ^ (h - n) := by
      have h1 : m < 2 ^ (h - n) := by
        rw [hm.out]
        exact Nat.div_lt_of_lt_mul (by rw [← Nat.pow_add, show n + (h - n) = h by omega]; exact hq)
      have h2 : 2 ^ (h - n) = 2 * 2 ^ (h - n - 1) := by
        rw [show h - n = (h - n - 1) + 1 by omega, Nat.pow_succ]; simp; omega
      omega
    refine Nat.le_trans (Nat.mul_le_mul_right (2 ^ n) (show s + 1 ≤ 2 ^ (h - n) by omega)) ?_
    rw [← Nat.pow_add, show h - n + n = h by omega]
    exact Nat.le_trans (Nat.pow_le_pow_right (by decide) hh) (by decide)
  have HNs := Lib.hid (HN.out n s hs1)
  have hpg : (pathV seed h q)[n]? = some (nd seed n s) := by rw [← hnh.out]; exact wds_get _ _ _ hlt
  have hts := Lib.hid (take_snoc' hpg)
  obtain ⟨x, hx⟩ : ∃ x, nd seed n s = x := ⟨_, rfl⟩
  rw [hx] at HNs hts
  obtain ⟨xs, hxs⟩ : ∃ xs, ((pathV seed h q).take n).map U64 = xs := ⟨_, rfl⟩
  rw [hxs] at hown
  have hfin : Hid (((pathV seed h q).take (n + 1)).map U64 = xs ++ [U64 x]) := by unfold Hid; rw [hts.out, List.map_append, hxs]; rfl
  have hpth : Hid (∀ p, (Sg p)[19]? = some p) := fun p => by rw [← HSg.out]; exact sgA_path _ _ _
  have hset : Hid (∀ p p', (Sg p).setIfInBounds 19 p' = Sg p') := fun p p' => by rw [← HSg.out]; exact sgA_set _ _ _ _
  have hn6 : n ≤ 6 := by omega
  have Hhs := Lib.hid hHS
  have Hlt := Lib.hid hlt
  have Hm := Lib.hid hm.out
  clear hpow hs1 hpg hts hx hxs hnh HV HT HD hDl hHS hm HN e2 e3
  refine wp_region_inv (Inv := fun Lb a W => ∃ k0 k1 k2 k3 k4 k5 k6 k7 k8 k9 k10 : Bool, ∃ (B G' c' : Nat), Lb = #[k0, k1, k2, k3, k4, k5, k6, k7, k8, k9, k10] ∧ a = { tmps := #[U64 seed, .int .i64 (h : Nat), .int .i64 (q : Nat), U64 d, undef, undef, undef, undef, .pointer (some ⟨w.heap.size, 0, none⟩), .pointer (some ⟨gS, 0, none⟩), .pointer (some ⟨gD, 0, none⟩), .int .i64 (18 : Nat), .int .i64 (m : Nat), .int .i64 (n : Nat), .int .i64 (q : Nat), .agg (R 0), U64 d, .agg T, .int .i64 (18 : Nat), .bool false, u20, u21, u22, u23, u24, u25, u26, u27, u28, u29, u30, u31, .int .i64 (q : Nat), .int .i64 (n : Nat), .int .i64 (h : Nat), .bool true, u36, u37, .int .i64 (m : Nat), .int .i64 ((m : Int) % 2), .bool false, u41, u42, u43, u44, u45, u46, u47, u48, u49, u50, (bif k0 then .pointer (some ⟨gS, 19, none⟩) else u51), (bif k1 then .slice G n c else u52), (bif k2 then U64 seed else u53), (bif k3 then .int .i64 (n : Nat) else u54), (bif k4 then .int .i64 (m : Nat) else u55), (bif k5 then .int .i64 (s : Nat) else u56), (bif k6 then U64 x else u57), (bif k7 then .slice (some ⟨B, 0, none⟩) 1 1 else u58), (bif k8 then (.slice (some ⟨G', 0, none⟩) (n + 1) c') else u59), (bif k9 then .pointer (some ⟨gS, 19, none⟩) else u60), u61, u62, undef], defers := [] } ∧ (k7 = true → k6 = true) ∧ (k8 = true → k7 = true ∧ k1 = true) ∧ (k10 = true → k8 = true) ∧ (k8 = false → (BoxN W gS 34 (Sg (.slice G n c)) ∧ W.ownsRow S 22 1 (.slice G n c) n xs ∧ S ≤ W.heap.size ∧ BoxN W w.heap.size 34 Z ∧ Below w.heap.size w W) ∧ (k7 = true → BoxN W B 22 #[U64 x])) ∧ (k8 = true → k10 = false → BoxN W gS 34 (Sg (.slice G n c)) ∧ W.ownsRow S 22 1 (.slice (some ⟨G', 0, none⟩) (n + 1) c') (n + 1) (xs ++ [U64 x]) ∧ S ≤ W.heap.size ∧ BoxN W w.heap.size 34 Z ∧ Below w.heap.size w W) ∧ (k10 = true → BoxN W gS 34 (Sg (.slice (some ⟨G', 0, none⟩) (n + 1) c')) ∧ W.ownsRow S 22 1 (.slice (some ⟨G', 0, none⟩) (n + 1) c') (n + 1) (xs ++ [U64 x]) ∧ S ≤ W.heap.size ∧ BoxN W w.heap.size 34 Z ∧ Below w.heap.size w W)) (by kernel_rfl) (down_of (by decide +kernel)) ?start ?size ?done ?step
  case start => exact ⟨false, false, false, false, false, false, false, false, false, false, false, 0, 0, 0, rfl, rfl, by simp, by simp, by simp, fun _ => ⟨⟨bS.drew, hown.drew, hSl, b8.drew, hB.drew⟩, by simp⟩, by simp, by simp⟩
  case size =>
    rintro Lb a W ⟨k0, k1, k2, k3, k4, k5, k6, k7, k8, k9, k10, B, G', c', rfl, -⟩
    rfl
  case step =>
    rintro Lb a W i o ⟨k0, k1, k2, k3, k4, k5, k6, k7, k8, k9, k10, B, G', c', rfl, rfl, p7, p8, p10, fA, fB, fC⟩ ho hl' hdep
    have hi' : i < 11 := (Array.getElem?_eq_some_iff.1 ho).1
    have hi2 : i = 0 ∨ i = 1 ∨ i = 2 ∨ i = 3 ∨ i = 4 ∨ i = 5 ∨ i = 6 ∨ i = 7 ∨ i = 8 ∨ i = 9 ∨ i = 10 := by omega
    clear hi' bS hown b8 hB hSl
    replace p7 := Lib.hid p7
    replace p8 := Lib.hid p8
    replace p10 := Lib.hid p10
    replace fA := Lib.hid fA
    replace fB := Lib.hid fB
    replace fC := Lib.hid fC
    rcases hi2 with rfl | rfl | rfl | rfl | rfl | rfl | rfl | rfl | rfl | rfl | rfl
    · cases ho
      obtain rfl : k0 = false := hl'
      clear hdep
      refine wpOp_step rfl (fun K hK => ?_)
      go_simp
      refine hK _ _ ?_; clear hK K
      exact ⟨true, k1, k2, k3, k4, k5, k6, k7, k8, k9, k10, B, G', c', rfl, rfl, p7.out, p8.out, p10.out, fA.out, fB.out, fC.out⟩
    · cases ho
      obtain rfl : k1 = false := hl'
      obtain rfl : k0 = true := hdep ⟨0, .data⟩ (by simp) rfl
      clear hdep
      obtain rfl : k8 = false := by cases k8 with | false => rfl | true => exact absurd (p8.out rfl) (by simp)
      obtain rfl : k10 = false := by cases k10 with | false => rfl | true => exact absurd (p10.out rfl) (by simp)
      have c19 := (fA.out rfl).1.1.cell 19
      rw [hpth.out] at c19
      refine wpOp_step rfl (fun K hK => ?_)
      simp only [cond_true]
      go_simp
      refine hK _ _ ?_; clear hK K
      exact ⟨true, true, k2, k3, k4, k5, k6, k7, false, k9, false, B, G', c', rfl, rfl, p7.out, by simp, by simp, fA.out, by simp, by simp⟩
    · cases ho
      obtain rfl : k2 = false := hl'
      clear hdep
      refine wpOp_step rfl (fun K hK => ?_)
      go_simp
      refine hK _ _ ?_; clear hK K
      exact ⟨k0, k1, true, k3, k4, k5, k6, k7, k8, k9, k10, B, G', c', rfl, rfl, p7.out, p8.out, p10.out, fA.out, fB.out, fC.out⟩
    · cases ho
      obtain rfl : k3 = false := hl'
      clear hdep
      refine wpOp_step rfl (fun K hK => ?_)
      go_simp
      refine hK _ _ ?_; clear hK K
      exact ⟨k0, k1, k2, true, k4, k5, k6, k7, k8, k9, k10, B, G', c', rfl, rfl, p7.out, p8.out, p10.out, fA.out, fB.out, fC.out⟩
    · cases ho
      obtain rfl : k4 = false := hl'
      clear hdep
      refine wpOp_step rfl (fun K hK => ?_)
      go_simp
      refine hK _ _ ?_; clear hK K
      exact ⟨k0, k1, k2, k3, true, k5, k6, k7, k8, k9, k10, B, G', c', rfl, rfl, p7.out, p8.out, p10.out, fA.out, fB.out, fC.out⟩
    · cases ho
      obtain rfl : k5 = false := hl'
      obtain rfl : k4 = true := hdep ⟨4, .data⟩ (by simp) rfl
      clear hdep
      refine wpOp_step rfl (fun K hK => ?_)
      simp only [cond_true]
      go_simp
      refine hK _ _ ?_; clear hK K
      exact ⟨k0, k1, k2, k3, true, true, k6, k7, k8, k9, k10, B, G', c', rfl, rfl, p7.out, p8.out, p10.out, fA.out, fB.out, fC.out⟩
    · cases ho
      obtain rfl : k6 = false := hl'
      obtain rfl : k2 = true := hdep ⟨2, .data⟩ (by simp) rfl
      obtain rfl : k3 = true := hdep ⟨3, .data⟩ (by simp) rfl
      obtain rfl : k5 = true := hdep ⟨5, .data⟩ (by simp) rfl
      clear hdep
      obtain rfl : k7 = false := by cases k7 with | false => rfl | true => exact absurd (p7.out rfl) (by simp)
      obtain rfl : k8 = false := by cases k8 with | false => rfl | true => exact absurd (p8.out rfl) (by simp)
      obtain rfl : k10 = false := by cases k10 with | false => rfl | true => exact absurd (p10.out rfl) (by simp)
      obtain ⟨⟨hbS, hown, hSl, hb8, hB⟩, -⟩ := fA.out rfl
      have HbS := Lib.hid hbS
      have Hown := Lib.hid hown
      have Hb8 := Lib.hid hb8
      have HB := Lib.hid hB
      have HSl := Lib.hid hSl
      clear hbS hown hb8 hB hSl
      refine wpOp_step rfl (fun K hK => ?_)
      simp only [cond_true]
      go_simp
      (with_reducible refine (HNs.out _).mono ?_); rintro e w2 ⟨rfl, hb2⟩
      refine hK _ _ ?_; clear hK K
      exact ⟨k0, k1, true, true, k4, true, true, false, false, k9, false, B, G', c', rfl, rfl, by simp, by simp, by simp, fun _ => ⟨⟨HbS.out.keep hb2, own_below Hown.out hb2, Nat.le_trans HSl.out hb2.size, Hb8.out.keep hb2, HB.out.trans (hb2.mono HB.out.size)⟩, by simp⟩, by simp, by simp⟩
    · cases ho
      obtain rfl : k7 = false := hl'
      obtain rfl : k6 = true := hdep ⟨6, .data⟩ (by simp) rfl
      clear hdep
      obtain rfl : k8 = false := by cases k8 with | false => rfl | true => exact absurd (p8.out rfl) (by simp)
      obtain rfl : k10 = false := by cases k10 with | false => rfl | true => exact absurd (p10.out rfl) (by simp)
      obtain ⟨⟨hbS, hown, hSl, hb8, hB⟩, -⟩ := fA.out rfl
      have HbS := Lib.hid hbS
      have Hown := Lib.hid hown
      have Hb8 := Lib.hid hb8
      have HB := Lib.hid hB
      have HSl := Lib.hid hSl
      have hNew := BoxN.new W 22 #[U64 x]
      clear hbS hown hb8 hB hSl
      refine wpOp_step rfl (fun K hK => ?_)
      simp only [cond_true]
      go_simp
      refine hK _ _ ?_; clear hK K
      exact ⟨k0, k1, k2, k3, k4, k5, true, true, false, k9, false, W.heap.size, G', c', rfl, rfl, by simp, by simp, by simp, fun _ => ⟨⟨HbS.out.alloc _, Hown.out.alloc _, by rw [World.size_alloc]; exact Nat.le_succ_of_le HSl.out, Hb8.out.alloc _, HB.out.alloc HB.out.size _⟩, fun _ => hNew⟩, by simp, by simp⟩
    · cases ho
      obtain rfl : k8 = false := hl'
      obtain rfl : k1 = true := hdep ⟨1, .data⟩ (by simp) rfl
      obtain rfl : k7 = true := hdep ⟨7, .data⟩ (by simp) rfl
      clear hdep
      obtain rfl : k10 = false := by cases k10 with | false => rfl | true => exact absurd (p10.out rfl) (by simp)
      obtain ⟨⟨hbS, hown, hSl, hb8, hB⟩, hbN⟩ := fA.out rfl
      have hNews := World.news_of_block (cs := #[U64 x]) (t := 22) (fr := (0, 0)) (hbN rfl)
      have hob := own_block_le hown
      have h12 := Hhs.out
      refine wpOp_step rfl (fun K hK => ?_)
      refine step_append_lies _ rfl (.tmp 52) (.tmp 58) 32 rfl S 22 i0 _ 1 8 Try.underlying32 hi hz0 hz1 hz2 rfl (by decide) (.slice G n c) n xs rfl hown ⟨B, 0, none⟩ 1 1 [U64 x] rfl rfl hNews (by simp [Value.oneCell']) (by decide) (by unfold maxLen; omega) (by omega) hSl _ rfl ?_
      intro G5 c5 w5 hn5 hg5 _ _
      refine hK _ _ ?_; clear hK K
      exact ⟨k0, true, k2, k3, k4, k5, k6, true, true, k9, false, B, G5, c5, rfl, rfl, p7.out, fun _ => ⟨rfl, rfl⟩, by simp, by simp, fun _ _ => ⟨(hg5.block gS hbS.lt (fun e => by have := hob _ e.symm; omega)).trans hbS, hn5, Nat.le_trans hSl hg5.size, (hg5.block w.heap.size hb8.lt (fun e => by have := hob _ e.symm; omega)).trans hb8, hB.grown hg5 hB.size (fun j e => by have := hob j e; omega)⟩, by simp⟩
    · cases ho
      obtain rfl : k9 = false := hl'
      clear hdep
      refine wpOp_step rfl (fun K hK => ?_)
      go_simp
      refine hK _ _ ?_; clear hK K
      exact ⟨k0, k1, k2, k3, k4, k5, k6, k7, k8, true, k10, B, G', c', rfl, rfl, p7.out, p8.out, p10.out, fA.out, fB.out, fC.out⟩
    · cases ho
      obtain rfl : k10 = false := hl'
      obtain rfl : k8 = true := hdep ⟨8, .data⟩ (by simp) rfl
      obtain rfl : k9 = true := hdep ⟨9, .data⟩ (by simp) rfl
      clear hdep
      obtain ⟨hbS, hown, hSl, hb8, hB⟩ := fB.out rfl rfl
      have c19 := hbS.cell 19
      rw [hpth.out] at c19
      have f19 := hbS.frozen 19
      have hgl := hbS.lt
      have hb1 := hbS.set1 19 (.slice (some ⟨G', 0, none⟩) (n + 1) c')
      rw [hset.out] at hb1
      have h12 := Hhs.out
      have HbS := Lib.hid hb1
      have Hown := Lib.hid (own_far' hown (p := ⟨gS, 19, none⟩) (show gS < S by omega) (.slice (some ⟨G', 0, none⟩) (n + 1) c'))
      have Hb8 := Lib.hid (hb8.far (p := ⟨gS, 19, none⟩) (show w.heap.size ≠ gS by omega) (.slice (some ⟨G', 0, none⟩) (n + 1) c'))
      have HB := Lib.hid (hB.setCell (p := ⟨gS, 19, none⟩) (show w.heap.size ≤ gS by omega) (.slice (some ⟨G', 0, none⟩) (n + 1) c'))
      have HSl := Lib.hid hSl
      clear hbS hb1 hown hb8 hB hSl
      refine wpOp_step rfl (fun K hK => ?_)
      simp only [cond_true]
      go_simp
      refine hK _ _ ?_; clear hK K
      exact ⟨k0, k1, k2, k3, k4, k5, k6, k7, true, true, true, B, G', c', rfl, rfl, p7.out, p8.out, fun _ => rfl, by simp, by simp, fun _ => ⟨HbS.out, Hown.out, by simpa using HSl.out, Hb8.out, HB.out⟩⟩
  case done =>
    rintro Lb a W ⟨j0, j1, j2, j3, j4, j5, j6, j7, j8, j9, j10, B, G', c', rfl, rfl, -, -, -, -, -, fC⟩ hall
    obtain rfl : j0 = true := hall 0 (by decide)
    obtain rfl : j1 = true := hall 1 (by decide)
    obtain rfl : j2 = true := hall 2 (by decide)
    obtain rfl : j3 = true := hall 3 (by decide)
    obtain rfl : j4 = true := hall 4 (by decide)
    obtain rfl : j5 = true := hall 5 (by decide)
    obtain rfl : j6 = true := hall 6 (by decide)
    obtain rfl : j7 = true := hall 7 (by decide)
    obtain rfl : j8 = true := hall 8 (by decide)
    obtain rfl : j9 = true := hall 9 (by decide)
    obtain rfl : j10 = true := hall 10 (by decide)
    obtain ⟨hbS, hown, hSl, hb8, hB⟩ := fC rfl
    clear fC hall
    simp only [cond_true]
    have HbS := Lib.hid hbS
    have Hown := Lib.hid hown
    have Hb8 := Lib.hid hb8
    have HB := Lib.hid hB
    have HSl := Lib.hid hSl
    clear hbS hown hb8 hB hSl bS b8
    have hd2 : (m : Int).tdiv 2 = ((m / 2 : Nat) : Int) := by rw [Int.tdiv_eq_ediv_of_nonneg (Int.natCast_nonneg m)]; omega
    have hd3 : (m : Int) / 2 = ((m / 2 : Nat) : Int) := by omega
    obtain ⟨m2, hm2⟩ : ∃ m2, m / 2 = m2 := ⟨_, rfl⟩
    rw [hm2] at hd2 hd3
    have Hm2 := Lib.hid hm2
    clear hm2
    have hm3 : m2 < 64 := by have := Hm2.out; omega
    go_wp2_with fail
    go_roundw
    case rel => exact ⟨n + 1, m2, some ⟨G', 0, none⟩, c', Nat.succ_le_of_lt Hlt.out, by rw [← Hm2.out, Hm.out, Nat.div_div_eq_div_mul, Nat.pow_succ], by go_num, by first | rfl | go_num, HbS.out, by rw [hfin.out]; exact Hown.out, HSl.out, Hb8.out, HB.out⟩
    case measure => have := Hlt.out; simp [intOf]; omega
end RSg
end Go.Proofs.Ytaoipbndmfjmhaa
