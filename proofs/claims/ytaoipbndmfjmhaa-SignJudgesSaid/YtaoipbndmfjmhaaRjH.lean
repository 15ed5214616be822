/- The reference's Decode: the drawn region of a round (genrde.py). -/
import Derived.Test.YtaoipbndmfjmhaaRjE
import Derived.Test.YtaoipbndmfjmhaaRfH
namespace Go.Proofs.Ytaoipbndmfjmhaa
open Go.RowKit Go.Joins
namespace RDe
set_option maxRecDepth 100000 in
set_option maxHeartbeats 8000000 in
theorem fin : step.p2 := by
  unfold step
  intro cap m n f ls w hn6 hm255 HV bb off hbl HC Hwf Hwl D HWd HD Hn hd146 hx0 hx1 hx0i hx1i Z hZs R hRs hZn zrdEnd0 nq w1 zrdEnd1 w2 gS hg1 zrdEnd2 u39 u40 u41 u42 u43 u44 u45 u46 u47 u48 u49 u50 Sg HSg zrdEnd3 zrdEnd4 zrdEnd5 zrdEnd6 zrdEnd7 S hS hHS wr u51 u52 u53 u54 u55 u56 u57 u58 u59 u60 u61 u62 u63 u64 u65 u66 u67 u68 k G c hk bS hown hSl b8 hB c0 c1 hbl2 hlt
  obtain rfl : n = k := by omega
  have hdn : decide (n < n) = false := by simp
  have hlen : (ls.take n) = ls := List.take_of_length_le (by rw [Hn.out]; exact Nat.le_refl _)
  rw [hlen] at hown
  have hq1 : isQ G ls wr := isQ_of_own (c := c) (by rw [Hn.out]; exact hown)
  have hi2 : (Try.prog.info? 34).map (·.size) = some (Sg (.slice G n c)).size := by rw [← HSg.out, sgA_size]; exact info_sig
  have ho2 : (Sg (.slice G n c)).all (·.oneCell') = true := by rw [← HSg.out]; exact sgA_one _ _ _ rfl
  have hs2 : Z.size = (Sg (.slice G n c)).size := by rw [← HSg.out, sgA_size, hZs]
  have hT : Hid (Sg (.slice G n c) = sgA m f (.slice G n c)) := by unfold Hid; rw [HSg.out]
  have hlt2 : ∀ a, G = some a → S ≤ a.block := fun a ea => own_block_le hown a.block (by rw [ea]; rfl)
  have hHS2 := hHS.1
  have hHS3 := hHS.2
  have b2 : BoxN (wr.setRow w.heap.size (Sg (.slice G n c))) w.heap.size 34 (Sg (.slice G n c)) := BoxN.setRow b8 _
  have hB2 := below_setRow hB (Nat.le_refl _) (Sg (.slice G n c))
  have hq2 : isQ G ls (wr.setRow w.heap.size (Sg (.slice G n c))) := fun hne => by
    obtain ⟨b, off, e, hb, hr⟩ := hq1 hne
    have hbS := hlt2 _ e
    have hne2 : b ≠ w.heap.size := by simp only at hbS; omega
    refine ⟨b, off, e, by simpa [World.setRow] using hb, fun k z hk => ?_⟩
    rw [World.cell?_of_block (w := wr) (setRow_other wr w.heap.size b _ hne2)]
    exact hr k z hk
  have hbS' : wr.heap[gS]? = some (.cells (Sg (.slice G n c)) 34 (0, 0)) := bS
  have hb8' : wr.heap[w.heap.size]? = some (.cells Z 34 (0, 0)) := b8
  have HQ := Lib.hid hq2
  have HB2 := Lib.hid hB2
  clear hown hq1 hq2 hlt2 bS b8 hB hB2 hlen hHS2 hHS3
  generalize Sg (.slice G n c) = T2 at *
  go_wp2_with (first | (refine wpList_load_row rfl 34 _ rfl gS rfl _ T2 _ _ hbS' Try.underlying34 rfl hi2 ?_) | (refine wpList_store_rowTo rfl 34 _ _ rfl rfl w.heap.size T2 rfl rfl _ Z hb8' hi2 hs2 ho2 ?_))
  exact bodyPost_ret (v := .tuple #[.agg T2, .int .i64 0]) (results_cell_tmp Try.results26 _ _ w.heap.size _ T2 _ rfl b2 Try.underlying34 rfl hi2) rfl ⟨G, c, by rw [hT.out], HQ.out, HB2.out⟩
set_option maxRecDepth 100000 in
set_option maxHeartbeats 8000000 in
theorem round : step.p1 := by
  unfold step
  intro cap m n f ls w hn6 hm255 HV bb off hbl HC Hwf Hwl D HWd HD Hn hd146 hx0 hx1 hx0i hx1i Z hZs R hRs hZn zrdRound0 nq w1 zrdRound1 w2 gS hg1 zrdRound2 u39 u40 u41 u42 u43 u44 u45 u46 u47 u48 u49 u50 Sg HSg zrdRound3 zrdRound4 zrdRound5 zrdRound6 zrdRound7 S hS hHS wr u51 u52 u53 u54 u55 u56 u57 u58 u59 u60 u61 u62 u63 u64 u65 u66 u67 u68 k G c hk bS hown hSl b8 hB c0 c1 hbl2 hlt hd zrdRound8 zrdRound9 zrdRound10
  obtain ⟨i0, hi, hz0, hz1, hz2⟩ := info_parts infoQ
  obtain ⟨x, hx⟩ : ∃ x, ls[k]? = some x := ⟨_, List.getElem?_eq_getElem (by rw [Hn.out]; exact hlt)⟩
  have hts := take_snoc' hx
  obtain ⟨xs, hxs⟩ : ∃ xs, (ls.take k).map U64 = xs := ⟨_, rfl⟩
  rw [hxs] at hown
  have hfin : Hid ((ls.take (k + 1)).map U64 = xs ++ [U64 x]) := by unfold Hid; rw [hts, List.map_append, hxs]; rfl
  replace hx := Lib.hid (Hwl.out k x hx)
  have hpth : Hid (∀ p, (Sg p)[19]? = some p) := fun p => by rw [← HSg.out]; exact sgA_path _ _ _
  have hset : Hid (∀ p p', (Sg p).setIfInBounds 19 p' = Sg p') := fun p p' => by rw [← HSg.out]; exact sgA_set _ _ _ _
  obtain ⟨p8, hp8⟩ : ∃ p8, 8 * k = p8 := ⟨_, rfl⟩
  obtain ⟨p, hp⟩ : ∃ p, 146 + p8 = p := ⟨_, rfl⟩
  have e8 : (8 : Int) * (k : Int) = (p8 : Int) := by omega
  have ep : (146 : Int) + (p8 : Int) = (p : Int) := by omega
  have w8 : IntKind.i64.wrap (p8 : Int) = (p8 : Int) := IntWalk.i64_in _ (by omega)
  have wp : IntKind.i64.wrap (p : Int) = (p : Int) := IntWalk.i64_in _ (by omega)
  have Hp := Lib.hid (show p = 2 + 8 * (18 + k) by omega)
  have bZ := b8
  clear b8
  have Hhs := Lib.hid hHS
  have Hlt := Lib.hid hlt
  clear hp8 hp hxs hts HV HC HD hHS c0 c1 hbl2 hd146 hx0 hx1 hx0i hx1i
  refine wp_region_inv (Inv := fun Lb a W => ∃ (b0 b1 b2 b3 b4 b5 b6 b7 b8 b9 b10 : Bool) (B : Nat) (G' : Nat) (c' : Nat), Lb = #[b0, b1, b2, b3, b4, b5, b6, b7, b8, b9, b10] ∧ a = { tmps := #[Value.slice (some ⟨bb, off, none⟩) D cap, undef, Value.pointer (some ⟨w.heap.size, 0, none⟩), Value.int IntKind.i64 0, Value.pointer (some ⟨gS, 0, none⟩), Value.int IntKind.i64 ↑18, Value.int IntKind.i64 ↑k, Value.slice (some ⟨bb, off, none⟩) D cap, Value.int IntKind.i64 ↑D, Value.bool false, Value.bool false, Value.slice (some ⟨bb, off, none⟩) D cap, Value.pointer (some ⟨bb, off + 1, none⟩), Value.int IntKind.u8 ↑n, Value.int IntKind.i64 ↑n, Value.slice (some ⟨bb, off, none⟩) D cap, Value.pointer (some ⟨bb, off, none⟩), Value.int IntKind.u8 ↑m, Value.int IntKind.i64 ↑m, Value.bool true, Value.bool false, Value.bool false, Value.bool false, Value.slice (some ⟨bb, off, none⟩) D cap, Value.int IntKind.i64 ↑D, Value.slice (some ⟨bb, off, none⟩) D cap, Value.pointer (some ⟨bb, off + 1, none⟩), Value.int IntKind.u8 ↑n, Value.int IntKind.i64 ↑n, Value.int IntKind.i64 (8 * ↑n), Value.int IntKind.i64 (146 + 8 * ↑n), Value.bool false, Value.bool false, undef, Value.slice (some ⟨bb, off, none⟩) D cap, Value.pointer (some ⟨bb, off, none⟩), Value.int IntKind.u8 ↑m, Value.int IntKind.i64 ↑m, Value.agg (R 0), Value.int IntKind.i64 ↑18, Value.bool false, u41, u42, u43, u44, u45, u46, u47, u48, u49, u50, Value.int IntKind.i64 ↑k, Value.slice (some ⟨bb, off, none⟩) D cap, Value.pointer (some ⟨bb, off + 1, none⟩), Value.int IntKind.u8 ↑n, Value.int IntKind.i64 ↑n, Value.bool true, u57, u58, (bif b0 then .pointer (some ⟨gS, 19, none⟩) else u59), (bif b1 then (.slice G k c) else u60), (bif b2 then .slice (some ⟨bb, off, none⟩) D cap else u61), (bif b3 then .int .i64 (k : Nat) else u62), (bif b4 then .int .i64 (p8 : Nat) else u63), (bif b5 then .int .i64 (p : Nat) else u64), (bif b6 then U64 x else u65), (bif b7 then .slice (some ⟨B, 0, none⟩) 1 1 else u66), (bif b8 then (.slice (some ⟨G', 0, none⟩) (k + 1) c') else u67), (bif b9 then .pointer (some ⟨gS, 19, none⟩) else u68), undef], defers := [] } ∧ (b7 = true → b6 = true) ∧ (b8 = true → b7 = true ∧ b1 = true) ∧ (b10 = true → b8 = true) ∧ (b8 = false → (BoxN W gS 34 (Sg (.slice G k c)) ∧ W.ownsRow S 22 1 (.slice G k c) k xs ∧ S ≤ W.heap.size ∧ BoxN W w.heap.size 34 Z ∧ Below w.heap.size w W) ∧ (b7 = true → BoxN W B 22 #[U64 x])) ∧ (b8 = true → b10 = false → BoxN W gS 34 (Sg (.slice G k c)) ∧ W.ownsRow S 22 1 (.slice (some ⟨G', 0, none⟩) (k + 1) c') (k + 1) (xs ++ [U64 x]) ∧ S ≤ W.heap.size ∧ BoxN W w.heap.size 34 Z ∧ Below w.heap.size w W) ∧ (b10 = true → BoxN W gS 34 (Sg (.slice (some ⟨G', 0, none⟩) (k + 1) c')) ∧ W.ownsRow S 22 1 (.slice (some ⟨G', 0, none⟩) (k + 1) c') (k + 1) (xs ++ [U64 x]) ∧ S ≤ W.heap.size ∧ BoxN W w.heap.size 34 Z ∧ Below w.heap.size w W)) (by kernel_rfl) (down_of (by decide +kernel)) ?start ?size ?done ?step
  case start => exact ⟨false, false, false, false, false, false, false, false, false, false, false, 0, 0, 0, rfl, rfl, by simp, by simp, by simp, fun _ => ⟨⟨bS.drew, hown.drew, by simpa using hSl, bZ.drew, hB.drew⟩, by simp⟩, by simp, by simp⟩
  case size =>
    rintro Lb a W ⟨b0, b1, b2, b3, b4, b5, b6, b7, b8, b9, b10, B, G', c', rfl, -⟩
    rfl
  case step =>
    rintro Lb a W i o ⟨b0, b1, b2, b3, b4, b5, b6, b7, b8, b9, b10, B, G', c', rfl, rfl, p7, p8, p10, f0, f1, f2⟩ ho hl' hdep
    have hi' : i < 11 := (Array.getElem?_eq_some_iff.1 ho).1
    have hi2 : i = 0 ∨ i = 1 ∨ i = 2 ∨ i = 3 ∨ i = 4 ∨ i = 5 ∨ i = 6 ∨ i = 7 ∨ i = 8 ∨ i = 9 ∨ i = 10 := by omega
    clear hi' hB bZ bS hown hSl
    replace p7 := Lib.hid p7
    replace p8 := Lib.hid p8
    replace p10 := Lib.hid p10
    replace f0 := Lib.hid f0
    replace f1 := Lib.hid f1
    replace f2 := Lib.hid f2
    rcases hi2 with rfl | rfl | rfl | rfl | rfl | rfl | rfl | rfl | rfl | rfl | rfl
    · cases ho
      obtain rfl : b0 = false := hl'
      clear hdep
      refine wpOp_step rfl (fun K hK => ?_)
      go_simp
      refine hK _ _ ?_; clear hK K
      exact ⟨true, b1, b2, b3, b4, b5, b6, b7, b8, b9, b10, B, G', c', rfl, rfl, p7.out, p8.out, p10.out, f0.out, f1.out, f2.out⟩
    · cases ho
      obtain rfl : b1 = false := hl'
      obtain rfl : b0 = true := hdep ⟨0, .data⟩ (by simp) rfl
      clear hdep
      obtain rfl : b8 = false := by cases b8 with | false => rfl | true => exact absurd (p8.out rfl).2 (by simp)
      obtain rfl : b10 = false := by cases b10 with | false => rfl | true => exact absurd (p10.out rfl) (by simp)
      have c19 := (f0.out rfl).1.1.cell 19
      rw [hpth.out] at c19
      refine wpOp_step rfl (fun K hK => ?_)
      simp only [cond_true]
      go_simp
      refine hK _ _ ?_; clear hK K
      exact ⟨true, true, b2, b3, b4, b5, b6, b7, false, b9, false, B, G', c', rfl, rfl, p7.out, by simp, by simp, f0.out, by simp, by simp⟩
    · cases ho
      obtain rfl : b2 = false := hl'
      clear hdep
      refine wpOp_step rfl (fun K hK => ?_)
      go_simp
      refine hK _ _ ?_; clear hK K
      exact ⟨b0, b1, true, b3, b4, b5, b6, b7, b8, b9, b10, B, G', c', rfl, rfl, p7.out, p8.out, p10.out, f0.out, f1.out, f2.out⟩
    · cases ho
      obtain rfl : b3 = false := hl'
      clear hdep
      refine wpOp_step rfl (fun K hK => ?_)
      go_simp
      refine hK _ _ ?_; clear hK K
      exact ⟨b0, b1, b2, true, b4, b5, b6, b7, b8, b9, b10, B, G', c', rfl, rfl, p7.out, p8.out, p10.out, f0.out, f1.out, f2.out⟩
    · cases ho
      obtain rfl : b4 = false := hl'
      obtain rfl : b3 = true := hdep ⟨3, .data⟩ (by simp) rfl
      clear hdep
      refine wpOp_step rfl (fun K hK => ?_)
      simp only [cond_true]
      go_simp
      refine hK _ _ ?_; clear hK K
      exact ⟨b0, b1, b2, true, true, b5, b6, b7, b8, b9, b10, B, G', c', rfl, rfl, p7.out, p8.out, p10.out, f0.out, f1.out, f2.out⟩
    · cases ho
      obtain rfl : b5 = false := hl'
      obtain rfl : b4 = true := hdep ⟨4, .data⟩ (by simp) rfl
      clear hdep
      refine wpOp_step rfl (fun K hK => ?_)
      simp only [cond_true]
      go_simp
      refine hK _ _ ?_; clear hK K
      exact ⟨b0, b1, b2, b3, true, true, b6, b7, b8, b9, b10, B, G', c', rfl, rfl, p7.out, p8.out, p10.out, f0.out, f1.out, f2.out⟩
    · cases ho
      obtain rfl : b6 = false := hl'
      obtain rfl : b2 = true := hdep ⟨2, .data⟩ (by simp) rfl
      obtain rfl : b5 = true := hdep ⟨5, .data⟩ (by simp) rfl
      clear hdep
      obtain rfl : b7 = false := by cases b7 with | false => rfl | true => exact absurd (p7.out rfl) (by simp)
      obtain rfl : b8 = false := by cases b8 with | false => rfl | true => exact absurd (p8.out rfl).1 (by simp)
      obtain rfl : b10 = false := by cases b10 with | false => rfl | true => exact absurd (p10.out rfl) (by simp)
      obtain ⟨⟨hbS, hown, hSl, hb8, hB⟩, -⟩ := f0.out rfl
      have HbS := Lib.hid hbS
      have Hown := Lib.hid hown
      have Hb8 := Lib.hid hb8
      have HB := Lib.hid hB
      have HSl := Lib.hid hSl
      have HWk := Lib.hid (HWd.out (18 + k) x p W hx.out Hp.out hB)
      clear hbS hown hb8 hB hSl
      refine wpOp_step rfl (fun K hK => ?_)
      simp only [cond_true]
      go_simp
      (with_reducible refine HWk.out.mono ?_); rintro e w4 ⟨rfl, rfl⟩
      refine hK _ _ ?_; clear hK K
      exact ⟨b0, b1, true, b3, b4, true, true, false, false, b9, false, B, G', c', rfl, rfl, by simp, by simp, by simp, fun _ => ⟨⟨HbS.out, Hown.out, HSl.out, Hb8.out, HB.out⟩, by simp⟩, by simp, by simp⟩
    · cases ho
      obtain rfl : b7 = false := hl'
      obtain rfl : b6 = true := hdep ⟨6, .data⟩ (by simp) rfl
      clear hdep
      obtain rfl : b8 = false := by cases b8 with | false => rfl | true => exact absurd (p8.out rfl).1 (by simp)
      obtain rfl : b10 = false := by cases b10 with | false => rfl | true => exact absurd (p10.out rfl) (by simp)
      obtain ⟨⟨hbS, hown, hSl, hb8, hB⟩, -⟩ := f0.out rfl
      have HbS := Lib.hid hbS
      have Hown := Lib.hid hown
      have Hb8 := Lib.hid hb8
      have HB := Lib.hid hB
      have HSl := Lib.hid hSl
      have hNew := BoxN.new W 22 #[U64 x]
      clear hbS hown hb8 hB hSl
      refine wpOp_step rfl (fun K hK => ?_)
      simp only [cond_true]
      go_simp
      refine hK _ _ ?_; clear hK K
      exact ⟨b0, b1, b2, b3, b4, b5, true, true, false, b9, false, W.heap.size, G', c', rfl, rfl, by simp, by simp, by simp, fun _ => ⟨⟨HbS.out.alloc _, Hown.out.alloc _, by rw [World.size_alloc]; exact Nat.le_succ_of_le HSl.out, Hb8.out.alloc _, HB.out.alloc HB.out.size _⟩, fun _ => hNew⟩, by simp, by simp⟩
    · cases ho
      obtain rfl : b8 = false := hl'
      obtain rfl : b1 = true := hdep ⟨1, .data⟩ (by simp) rfl
      obtain rfl : b7 = true := hdep ⟨7, .data⟩ (by simp) rfl
      clear hdep
      obtain rfl : b10 = false := by cases b10 with | false => rfl | true => exact absurd (p10.out rfl) (by simp)
      obtain ⟨⟨hbS, hown, hSl, hb8, hB⟩, hbN⟩ := f0.out rfl
      have hNews := World.news_of_block (cs := #[U64 x]) (t := 22) (fr := (0, 0)) (hbN rfl)
      have hob := own_block_le hown
      have h12 := Hhs.out
      refine wpOp_step rfl (fun K hK => ?_)
      refine step_append_lies _ rfl (.tmp 60) (.tmp 66) 32 rfl S 22 i0 _ 1 8 Try.underlying32 hi hz0 hz1 hz2 rfl (by decide) (.slice G k c) k xs rfl hown ⟨B, 0, none⟩ 1 1 [U64 x] rfl rfl hNews (by simp [Value.oneCell']) (by decide) (by unfold maxLen; omega) (by omega) hSl _ rfl ?_
      intro G5 c5 w5 hn5 hg5 _ _
      refine hK _ _ ?_; clear hK K
      exact ⟨b0, true, b2, b3, b4, b5, b6, true, true, b9, false, B, G5, c5, rfl, rfl, p7.out, by simp, by simp, by simp, fun _ _ => ⟨(hg5.block gS hbS.lt (fun e => by have := hob _ e.symm; omega)).trans hbS, hn5, Nat.le_trans hSl hg5.size, (hg5.block w.heap.size hb8.lt (fun e => by have := hob _ e.symm; omega)).trans hb8, hB.grown hg5 hB.size (fun j e => by have := hob j e; omega)⟩, by simp⟩
    · cases ho
      obtain rfl : b9 = false := hl'
      clear hdep
      refine wpOp_step rfl (fun K hK => ?_)
      go_simp
      refine hK _ _ ?_; clear hK K
      exact ⟨b0, b1, b2, b3, b4, b5, b6, b7, b8, true, b10, B, G', c', rfl, rfl, p7.out, p8.out, p10.out, f0.out, f1.out, f2.out⟩
    · cases ho
      obtain rfl : b10 = false := hl'
      obtain rfl : b9 = true := hdep ⟨9, .data⟩ (by simp) rfl
      obtain rfl : b8 = true := hdep ⟨8, .data⟩ (by simp) rfl
      clear hdep
      obtain ⟨hbS, hown, hSl, hb8, hB⟩ := f1.out rfl rfl
      have c19 := hbS.cell 19
      rw [hpth.out] at c19
      have f19 := hbS.frozen 19
      have hgl := hbS.lt
      have hb1 := hbS.set1 19 (.slice (some ⟨G', 0, none⟩) (k + 1) c')
      rw [hset.out] at hb1
      have h12 := Hhs.out
      have HbS := Lib.hid hb1
      have Hown := Lib.hid (own_far' hown (p := ⟨gS, 19, none⟩) (show gS < S by omega) (.slice (some ⟨G', 0, none⟩) (k + 1) c'))
      have Hb8 := Lib.hid (hb8.far (p := ⟨gS, 19, none⟩) (show w.heap.size ≠ gS by omega) (.slice (some ⟨G', 0, none⟩) (k + 1) c'))
      have HB := Lib.hid (hB.setCell (p := ⟨gS, 19, none⟩) (show w.heap.size ≤ gS by omega) (.slice (some ⟨G', 0, none⟩) (k + 1) c'))
      have HSl := Lib.hid hSl
      clear hbS hb1 hown hb8 hB hSl
      refine wpOp_step rfl (fun K hK => ?_)
      simp only [cond_true]
      go_simp
      refine hK _ _ ?_; clear hK K
      exact ⟨b0, b1, b2, b3, b4, b5, b6, b7, true, true, true, B, G', c', rfl, rfl, p7.out, p8.out, by simp, by simp, by simp, fun _ => ⟨HbS.out, Hown.out, by simpa using HSl.out, Hb8.out, HB.out⟩⟩
  case done =>
    rintro Lb a W ⟨j0, j1, j2, j3, j4, j5, j6, j7, j8, j9, j10, B, G', c', rfl, rfl, -, -, -, f0, f1, f2⟩ hall
    obtain rfl : j0 = true := hall 0 (by decide)
    obtain rfl : j1 = true := hall 1 (by decide)
    obtain rfl : j2 = true := hall 2 (by decide)
    obtain rfl : j3 = true := hall 3 (by decide)
    obtain rfl : j4 = true := hall 4 (by decide)
    obtain rfl : j5 = true := hall 5 (by decide)
    obtain rfl : j6 = true := hall 6 (by decide)
    obtain rfl : j7 = true := hall 7 (by decide)
    obtain rfl : j8 = true := hall 8 (by decide)
    obtain rfl : j9 = true := hall 9 (by decide)
    obtain rfl : j10 = true := hall 10 (by decide)
    clear hall
    obtain ⟨hbS, hown2, hSl2, hb8, hB2⟩ := f2 rfl
    have HbS := Lib.hid hbS
    have Hown := Lib.hid hown2
    have Hb8 := Lib.hid hb8
    have HB := Lib.hid hB2
    have HSl := Lib.hid hSl2
    clear f0 f1 f2 hB bZ bS hown hSl hbS hown2 hb8 hB2 hSl2
    simp only [cond_true]
    go_wp2_with fail
    go_roundw
    case rel => exact ⟨_, _, _, _, _, _, _, _, _, _, _, _, _, _, _, _, _, _, _, ⟨k + 1, some ⟨G', 0, none⟩, c', Nat.succ_le_of_lt Hlt.out, by go_num, HbS.out, by rw [hfin.out]; exact Hown.out, HSl.out, Hb8.out, HB.out⟩, rfl⟩
    case measure => have := Hlt.out; simp [intOf]; omega

end RDe
theorem rdecode_ok (A : Option Addr) (cap m n : Nat) (f : Nat → BitVec 64) (ls : List (BitVec 64)) (hn : ls.length = n) (hk : okK (m : Int) (n : Int) = true) (w : World) (hl : isB A (encB m f ls) w) :
    Calls Try.prog 26 #[.slice A (146 + 8 * n) cap] w fun e w' => ∃ G c, e = .returned (.tuple #[.agg (sgA m f (.slice G n c)), .int .i64 0]) ∧ isQ G ls w' ∧ Below w.heap.size w w' :=
  RDe.step.run ⟨RDe.round⟩ ⟨RDe.fin⟩ ⟨trivial⟩ ⟨trivial⟩ A cap m n f ls hn hk w hl
end Go.Proofs.Ytaoipbndmfjmhaa
