/- The reference's Verify: the drawn region of a round (genrvf.py). -/
import Derived.Test.YtaoipbndmfjmhaaRjV
namespace Go.Proofs.Ytaoipbndmfjmhaa
open Go.RowKit Go.Joins
namespace RVf
set_option maxRecDepth 100000 in
set_option maxHeartbeats 8000000 in
theorem round : step.p1 := by
  unfold step
  intro root d h q f G c l hh w HV HBy O R HD HDg HPR v HAd F hst P0 HO HF0 hq64 T c0T c19T ccT HL Hlen hhh zrvRound0 w1 w2 zrvRound1 zrvRound2 w3 gD hgD S HS wr u29 u30 u31 u32 u33 u34 u35 u36 u37 u38 u39 u40 u41 u42 u43 u44 k G' c' m hk hown bT bR hB HM hlt hd zrvRound3 zrvRound4 zrvRound5
  obtain ⟨i0, hi, hz0, hz1, hz2⟩ := info_parts infoB
  have Hlb := Lib.hid (bytes8_len (v k))
  have hki : (k : Int) < 18 := by omega
  have hm4 : m ≤ 144 := by have := HM.out; omega
  have hSw : S ≤ wr.heap.size := by have := HS.out; have := bR.lt; omega
  refine wp_region_inv (Inv := fun Lb a W => ∃ (b0 b1 b2 b3 b4 b5 b6 b7 b8 b9 b10 b11 b12 : Bool) (G2 : Option Addr) (c2 G5 c5 : Nat), Lb = #[b0, b1, b2, b3, b4, b5, b6, b7, b8, b9, b10, b11, b12] ∧ a = { tmps := #[U64 root, Value.int IntKind.i64 ↑h, U64 d, Value.agg T, undef, undef, undef, Value.pointer (some ⟨w.heap.size, 0, none⟩), Value.bool false, (bif b12 then (.slice (some ⟨G5, 0, none⟩) (m + 8) c5) else Value.slice G' m c'), Value.pointer (some ⟨gD, 0, none⟩), Value.int IntKind.i64 ↑k, undef, undef, undef, Value.int IntKind.i64 ↑h, Value.pointer (some ⟨w.heap.size, 0, none⟩), Value.int IntKind.i64 ↑q, Value.bool true, Value.bool false, Value.bool false, Value.pointer (some ⟨w.heap.size, 19, none⟩), Value.slice G h c, Value.int IntKind.i64 ↑h, Value.int IntKind.i64 ↑h, Value.bool false, Value.bool false, U64 d, Value.agg R, Value.int IntKind.i64 ↑k, Value.bool true, u31, u32, (bif b0 then (.slice G' m c') else u33), (bif b1 then .int .i64 (k : Nat) else u34), (bif b2 then .int .i64 (k : Nat) else u35), (bif b3 then .pointer (some ⟨gD, k, none⟩) else u36), (bif b4 then .int .i64 (digN d k : Nat) else u37), (bif b5 then .int .i64 (k : Nat) else u38), (bif b6 then .pointer (some ⟨w.heap.size, 1, none⟩) else u39), (bif b7 then .pointer (some ⟨w.heap.size, 1 + k, none⟩) else u40), (bif b8 then U64 (f k) else u41), (bif b9 then U64 (v k) else u42), (bif b10 then (.slice G2 8 c2) else u43), (bif b11 then (.slice (some ⟨G5, 0, none⟩) (m + 8) c5) else u44), undef, undef, undef, undef, undef, undef, undef, undef, undef, undef, undef, undef, undef, undef, undef, undef, undef, undef, undef, undef, undef, undef, undef, undef, undef, undef, undef, undef, undef, undef, undef], defers := [] } ∧ (b10 = true → b9 = true) ∧ (b11 = true → b0 = true ∧ b10 = true) ∧ (b12 = true → b11 = true) ∧ (Below w.heap.size w W ∧ BoxN W w.heap.size 34 T ∧ BoxN W gD 24 R ∧ S ≤ W.heap.size) ∧ (b11 = false → W.ownsRow S 5 1 (.slice G' m c') m (cellsB (F k)) ∧ (b10 = true → isB G2 (bytes8 (v k)) W)) ∧ (b11 = true → W.ownsRow S 5 1 (.slice (some ⟨G5, 0, none⟩) (m + 8) c5) (m + 8) (cellsB (F (k + 1))))) (by kernel_rfl) (down_of (by decide +kernel)) ?start ?size ?done ?step
  case start => exact ⟨false, false, false, false, false, false, false, false, false, false, false, false, false, none, 0, 0, 0, rfl, rfl, by simp, by simp, by simp, ⟨hB.drew, bT.drew, bR.drew, by simpa using hSw⟩, fun _ => ⟨hown.drew, by simp⟩, by simp⟩
  case size =>
    rintro Lb a W ⟨b0, b1, b2, b3, b4, b5, b6, b7, b8, b9, b10, b11, b12, G2, c2, G5, c5, rfl, -⟩
    rfl
  case step =>
    rintro Lb a W i o ⟨b0, b1, b2, b3, b4, b5, b6, b7, b8, b9, b10, b11, b12, G2, c2, G5, c5, rfl, rfl, p10, p11, p12, f0, f1, f2⟩ ho hl' hdep
    have hi' : i < 13 := (Array.getElem?_eq_some_iff.1 ho).1
    have hi2 : i = 0 ∨ i = 1 ∨ i = 2 ∨ i = 3 ∨ i = 4 ∨ i = 5 ∨ i = 6 ∨ i = 7 ∨ i = 8 ∨ i = 9 ∨ i = 10 ∨ i = 11 ∨ i = 12 := by omega
    clear hi' hB bT bR hown hSw
    replace p10 := Lib.hid p10
    replace p11 := Lib.hid p11
    replace p12 := Lib.hid p12
    replace f0 := Lib.hid f0
    replace f1 := Lib.hid f1
    replace f2 := Lib.hid f2
    rcases hi2 with rfl | rfl | rfl | rfl | rfl | rfl | rfl | rfl | rfl | rfl | rfl | rfl | rfl
    · cases ho
      obtain rfl : b0 = false := hl'
      clear hdep
      obtain rfl : b11 = false := by cases b11 with | false => rfl | true => exact absurd (p11.out rfl).1 (by simp)
      obtain rfl : b12 = false := by cases b12 with | false => rfl | true => exact absurd (p12.out rfl) (by simp)
      refine wpOp_step rfl (fun K hK => ?_)
      go_simp
      refine hK _ _ ?_; clear hK K
      exact ⟨true, b1, b2, b3, b4, b5, b6, b7, b8, b9, b10, false, false, G2, c2, G5, c5, rfl, rfl, p10.out, by simp, by simp, f0.out, f1.out, f2.out⟩
    · cases ho
      obtain rfl : b1 = false := hl'
      clear hdep
      refine wpOp_step rfl (fun K hK => ?_)
      go_simp
      refine hK _ _ ?_; clear hK K
      exact ⟨b0, true, b2, b3, b4, b5, b6, b7, b8, b9, b10, b11, b12, G2, c2, G5, c5, rfl, rfl, p10.out, p11.out, p12.out, f0.out, f1.out, f2.out⟩
    · cases ho
      obtain rfl : b2 = false := hl'
      clear hdep
      refine wpOp_step rfl (fun K hK => ?_)
      go_simp
      refine hK _ _ ?_; clear hK K
      exact ⟨b0, b1, true, b3, b4, b5, b6, b7, b8, b9, b10, b11, b12, G2, c2, G5, c5, rfl, rfl, p10.out, p11.out, p12.out, f0.out, f1.out, f2.out⟩
    · cases ho
      obtain rfl : b3 = false := hl'
      obtain rfl : b2 = true := hdep ⟨2, .data⟩ (by simp) rfl
      clear hdep
      refine wpOp_step rfl (fun K hK => ?_)
      simp only [cond_true]
      go_simp
      refine hK _ _ ?_; clear hK K
      exact ⟨b0, b1, true, true, b4, b5, b6, b7, b8, b9, b10, b11, b12, G2, c2, G5, c5, rfl, rfl, p10.out, p11.out, p12.out, f0.out, f1.out, f2.out⟩
    · cases ho
      obtain rfl : b4 = false := hl'
      obtain rfl : b3 = true := hdep ⟨3, .data⟩ (by simp) rfl
      clear hdep
      have cR := f0.out.2.2.1.cell k
      rw [HDg.out k hlt] at cR
      refine wpOp_step rfl (fun K hK => ?_)
      simp only [cond_true]
      go_simp
      refine hK _ _ ?_; clear hK K
      exact ⟨b0, b1, b2, true, true, b5, b6, b7, b8, b9, b10, b11, b12, G2, c2, G5, c5, rfl, rfl, p10.out, p11.out, p12.out, f0.out, f1.out, f2.out⟩
    · cases ho
      obtain rfl : b5 = false := hl'
      clear hdep
      refine wpOp_step rfl (fun K hK => ?_)
      go_simp
      refine hK _ _ ?_; clear hK K
      exact ⟨b0, b1, b2, b3, b4, true, b6, b7, b8, b9, b10, b11, b12, G2, c2, G5, c5, rfl, rfl, p10.out, p11.out, p12.out, f0.out, f1.out, f2.out⟩
    · cases ho
      obtain rfl : b6 = false := hl'
      clear hdep
      refine wpOp_step rfl (fun K hK => ?_)
      go_simp
      refine hK _ _ ?_; clear hK K
      exact ⟨b0, b1, b2, b3, b4, b5, true, b7, b8, b9, b10, b11, b12, G2, c2, G5, c5, rfl, rfl, p10.out, p11.out, p12.out, f0.out, f1.out, f2.out⟩
    · cases ho
      obtain rfl : b7 = false := hl'
      obtain rfl : b6 = true := hdep ⟨6, .data⟩ (by simp) rfl
      obtain rfl : b5 = true := hdep ⟨5, .data⟩ (by simp) rfl
      clear hdep
      refine wpOp_step rfl (fun K hK => ?_)
      simp only [cond_true]
      go_simp
      refine hK _ _ ?_; clear hK K
      exact ⟨b0, b1, b2, b3, b4, true, true, true, b8, b9, b10, b11, b12, G2, c2, G5, c5, rfl, rfl, p10.out, p11.out, p12.out, f0.out, f1.out, f2.out⟩
    · cases ho
      obtain rfl : b8 = false := hl'
      obtain rfl : b7 = true := hdep ⟨7, .data⟩ (by simp) rfl
      clear hdep
      have cT := f0.out.2.1.cell (1 + k)
      rw [ccT.out k hlt] at cT
      refine wpOp_step rfl (fun K hK => ?_)
      simp only [cond_true]
      go_simp
      refine hK _ _ ?_; clear hK K
      exact ⟨b0, b1, b2, b3, b4, b5, b6, true, true, b9, b10, b11, b12, G2, c2, G5, c5, rfl, rfl, p10.out, p11.out, p12.out, f0.out, f1.out, f2.out⟩
    · cases ho
      obtain rfl : b9 = false := hl'
      obtain rfl : b1 = true := hdep ⟨1, .data⟩ (by simp) rfl
      obtain rfl : b4 = true := hdep ⟨4, .data⟩ (by simp) rfl
      obtain rfl : b8 = true := hdep ⟨8, .data⟩ (by simp) rfl
      clear hdep
      obtain rfl : b10 = false := by cases b10 with | false => rfl | true => exact absurd (p10.out rfl) (by simp)
      obtain rfl : b11 = false := by cases b11 with | false => rfl | true => exact absurd (p11.out rfl).2 (by simp)
      obtain rfl : b12 = false := by cases b12 with | false => rfl | true => exact absurd (p12.out rfl) (by simp)
      obtain ⟨hown, -⟩ := f1.out rfl
      have Hown := Lib.hid hown
      have Hf := Lib.hid f0.out
      clear hown
      refine wpOp_step rfl (fun K hK => ?_)
      simp only [cond_true]
      go_simp
      (with_reducible refine (HAd.out _ _).mono ?_); rintro e x2 ⟨rfl, hb2⟩
      refine hK _ _ ?_; clear hK K
      exact ⟨b0, true, b2, b3, true, b5, b6, b7, true, true, false, false, false, G2, c2, G5, c5, rfl, rfl, by simp, by simp, by simp, ⟨Hf.out.1.trans (hb2.mono Hf.out.1.size), Hf.out.2.1.keep hb2, Hf.out.2.2.1.keep hb2, Nat.le_trans Hf.out.2.2.2 hb2.size⟩, fun _ => ⟨own_below Hown.out hb2, by simp⟩, by simp⟩
    · cases ho
      obtain rfl : b10 = false := hl'
      obtain rfl : b9 = true := hdep ⟨9, .data⟩ (by simp) rfl
      clear hdep
      obtain rfl : b11 = false := by cases b11 with | false => rfl | true => exact absurd (p11.out rfl).2 (by simp)
      obtain rfl : b12 = false := by cases b12 with | false => rfl | true => exact absurd (p12.out rfl) (by simp)
      obtain ⟨hown, -⟩ := f1.out rfl
      have Hown := Lib.hid hown
      have Hf := Lib.hid f0.out
      clear hown
      refine wpOp_step rfl (fun K hK => ?_)
      simp only [cond_true]
      go_simp
      (with_reducible refine (HBy.out _ _).mono ?_); rintro e x2 ⟨G3, c3, rfl, h3, hb2⟩
      refine hK _ _ ?_; clear hK K
      exact ⟨b0, b1, b2, b3, b4, b5, b6, b7, b8, true, true, false, false, G3, c3, G5, c5, rfl, rfl, by simp, by simp, by simp, ⟨Hf.out.1.trans (hb2.mono Hf.out.1.size), Hf.out.2.1.keep hb2, Hf.out.2.2.1.keep hb2, Nat.le_trans Hf.out.2.2.2 hb2.size⟩, fun _ => ⟨own_below Hown.out hb2, fun _ => isB_of_own h3⟩, by simp⟩
    · cases ho
      obtain rfl : b11 = false := hl'
      obtain rfl : b0 = true := hdep ⟨0, .data⟩ (by simp) rfl
      obtain rfl : b10 = true := hdep ⟨10, .data⟩ (by simp) rfl
      clear hdep
      obtain rfl : b12 = false := by cases b12 with | false => rfl | true => exact absurd (p12.out rfl) (by simp)
      obtain ⟨hown, hiB⟩ := f1.out rfl
      have hn := (hiB rfl).news
      have h8 := Hlb.out
      obtain ⟨ad, rfl, hnews⟩ := hn (by rw [h8]; decide)
      have hob := own_block_le hown
      obtain ⟨hB0, hbT, hbR, hSl⟩ := f0.out
      have hS1 := HS.out
      refine wpOp_step rfl (fun K hK => ?_)
      refine step_append_lies _ rfl (.tmp 33) (.tmp 43) 42 rfl S 5 i0 _ 1 1 Try.underlying42 hi hz0 hz1 hz2 rfl (by decide) (.slice G' m c') m (cellsB (F k)) rfl hown ad 8 c2 (cellsB (bytes8 (v k))) rfl (by rw [cellsB_len, h8]) hnews (cellsB_one _) (by decide) (by unfold maxLen; omega) (by omega) hSl _ rfl ?_
      intro g5 k5 w5 hn5 hg5 _ _
      refine hK _ _ ?_; clear hK K
      exact ⟨true, b1, b2, b3, b4, b5, b6, b7, b8, b9, true, true, false, some ad, c2, g5, k5, rfl, rfl, p10.out, by simp, by simp, ⟨hB0.grown hg5 hB0.size (fun j e => by have := hob j e; omega), (hg5.block w.heap.size hbT.lt (fun e => by have := hob _ e.symm; omega)).trans hbT, (hg5.block gD hbR.lt (fun e => by have := hob _ e.symm; omega)).trans hbR, Nat.le_trans hSl hg5.size⟩, by simp, fun _ => by rw [hst.out, cellsB_append]; exact hn5⟩
    · cases ho
      obtain rfl : b12 = false := hl'
      obtain rfl : b11 = true := hdep ⟨11, .data⟩ (by simp) rfl
      clear hdep
      refine wpOp_step rfl (fun K hK => ?_)
      simp only [cond_true]
      go_simp
      refine hK _ _ ?_; clear hK K
      exact ⟨b0, b1, b2, b3, b4, b5, b6, b7, b8, b9, b10, true, true, G2, c2, G5, c5, rfl, rfl, p10.out, p11.out, by simp, f0.out, f1.out, f2.out⟩
  case done =>
    rintro Lb a W ⟨j0, j1, j2, j3, j4, j5, j6, j7, j8, j9, j10, j11, j12, G2, c2, G5, c5, rfl, rfl, -, -, -, f0, f1, f2⟩ hall
    obtain rfl : j0 = true := hall 0 (by decide)
    obtain rfl : j1 = true := hall 1 (by decide)
    obtain rfl : j2 = true := hall 2 (by decide)
    obtain rfl : j3 = true := hall 3 (by decide)
    obtain rfl : j4 = true := hall 4 (by decide)
    obtain rfl : j5 = true := hall 5 (by decide)
    obtain rfl : j6 = true := hall 6 (by decide)
    obtain rfl : j7 = true := hall 7 (by decide)
    obtain rfl : j8 = true := hall 8 (by decide)
    obtain rfl : j9 = true := hall 9 (by decide)
    obtain rfl : j10 = true := hall 10 (by decide)
    obtain rfl : j11 = true := hall 11 (by decide)
    obtain rfl : j12 = true := hall 12 (by decide)
    clear hall
    have Hown := Lib.hid (f2 rfl)
    have Hf := Lib.hid f0
    clear f0 f1 f2 hB bT bR hown
    simp only [cond_true]
    go_wp2_with fail
    go_roundw
    case rel => exact ⟨k + 1, _, _, m + 8, Nat.succ_le_of_lt hlt, by have := HM.out; omega, by go_num, rfl, Hown.out, Hf.out.2.1, Hf.out.2.2.1, Hf.out.1⟩
    case measure => simp [intOf]; omega

end RVf
theorem rverify_yes (root d : BitVec 64) (h q : Nat) (f : Nat → BitVec 64) (G : Option Addr) (c : Nat) (l : List (BitVec 64)) (hlen : l.length = h) (hh : h ≤ 6) (hq : q < 2 ^ h) (w : World) (hl : isQ G l w) :
    Calls Try.prog 28 #[U64 root, .int .i64 h, U64 d, .agg (sgA q f (.slice G h c))] w fun e w' => e = .returned (.bool (decide (verV q d f l = root))) ∧ Below w.heap.size w w' :=
  RVf.step.run ⟨RVf.round⟩ ⟨trivial⟩ ⟨trivial⟩ ⟨trivial⟩ root d h q f G c l hlen hh hq w hl
end Go.Proofs.Ytaoipbndmfjmhaa
