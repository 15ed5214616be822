/- SignTells: a valid key: the last region, which draws its order (gentle.py). -/
import Derived.Test.YtaoipbndmfjmhaaTlC
namespace Go.Proofs.Ytaoipbndmfjmhaa
open Go.RowKit Go.Joins
namespace Tll
set_option maxRecDepth 100000 in
set_option maxHeartbeats 8000000 in
theorem key : good.p1 := by
  unfold good
  intro seed d i k w HW T ztlKey0 Y hx1 hy1 ztlGood0 u17 u18 u19 u20 u21 hwc w1 w2 w3 w4 w5 w6 n hn3 V hv1 m T' PV HRs Z v1 v2 G1 c1 X hXi hSa1 g v4 v6 bX hQ1 hB ztlKey1 ztlKey2
  have hld : Hid (∀ W : World, BoxN W g 34 X → (loadVar 34 ⟨g, 0, none⟩).run Try.prog W = .ok (.agg X) W) := fun W h => run_loadVar_row (P := Try.prog) _ _ _ 34 _ (0, 0) _ h Try.underlying34 rfl hXi
  refine wp_region_inv (Inv := fun Lb a W => ∃ (b0 b1 b2 b3 b4 b5 b6 b7 b8 b9 b10 b11 b12 b13 b14 : Bool) (G2 : Option Addr) (c2 : Nat), Lb = #[b0, b1, b2, b3, b4, b5, b6, b7, b8, b9, b10, b11, b12, b13, b14] ∧ a = { tmps := #[U64 seed, Value.int IntKind.i64 ↑n, Value.int IntKind.i64 ↑m, U64 d, Value.int IntKind.i64 i, Value.int IntKind.i64 k, undef, undef, undef, undef, undef, undef, (bif b14 then .bool true else Value.bool false), U64 V, Value.int IntKind.i64 0, Value.pointer (some ⟨g, 0, none⟩), Value.int IntKind.i64 0, u17, u18, u19, u20, u21, Value.bool false, undef, U64 d, Value.agg T, U64 d, Value.agg T, Value.bool false, Value.bool false, Value.int IntKind.i64 i, Value.int IntKind.i64 k, U64 d, U64 ztlKey0, Value.int IntKind.i64 i, Value.int IntKind.i64 k, U64 d, U64 ztlKey0, Value.bool false, Value.bool false, Value.bool false, U64 seed, Value.int IntKind.i64 ↑m, U64 Y, U64 seed, Value.int IntKind.i64 ↑m, U64 Y, Value.bool false, Value.bool false, Value.tuple #[U64 V, Value.int IntKind.i64 0], U64 seed, Value.int IntKind.i64 ↑n, Value.tuple #[U64 V, Value.int IntKind.i64 0], U64 V, Value.int IntKind.i64 0, Value.tuple #[Value.agg X, Value.int IntKind.i64 0], U64 seed, Value.int IntKind.i64 ↑n, Value.int IntKind.i64 ↑m, U64 d, Value.tuple #[Value.agg X, Value.int IntKind.i64 0], Value.agg X, Value.int IntKind.i64 0, Value.int IntKind.i64 ↑n, Value.bool true, Value.bool false, undef, undef, undef, undef, undef, undef, undef, undef, undef, undef, undef, undef, undef, undef, undef, undef, undef, undef, Value.int IntKind.i64 0, Value.bool false, Value.bool false, U64 V, U64 seed, Value.int IntKind.i64 ↑n, U64 V, Value.bool false, Value.bool false, Value.int IntKind.i64 ↑n, Value.int IntKind.i64 ↑m, Value.bool true, Value.bool false, undef, undef, undef, undef, undef, undef, undef, undef, undef, undef, (bif b0 then .int .i64 0 else undef), (bif b1 then .bool true else undef), (bif b2 then .bool true else undef), (bif b3 then .agg X else undef), (bif b4 then U64 seed else undef), (bif b5 then .int .i64 (n : Nat) else undef), (bif b6 then .int .i64 (m : Nat) else undef), (bif b7 then U64 d else undef), (bif b8 then (.agg (T' G2 c2)) else undef), (bif b9 then .bool true else undef), (bif b10 then .bool true else undef), (bif b11 then .bool true else undef), (bif b12 then .bool true else undef), (bif b13 then .bool true else undef)], defers := [] } ∧ (b8 = true → b4 = true) ∧ (b9 = true → b3 = true ∧ b8 = true) ∧ Below w.heap.size w W ∧ (b9 = false → BoxN W g 34 X ∧ isQ G1 PV W ∧ (b8 = true → isQ G2 PV W))) (by kernel_rfl) (down_of (by decide +kernel)) ?start ?size ?done ?step
  case start => exact ⟨false, false, false, false, false, false, false, false, false, false, false, false, false, false, false, none, 0, rfl, rfl, by simp, by simp, hB.drew, fun _ => ⟨bX.drew, hQ1, by simp⟩⟩
  case size =>
    rintro Lb a W ⟨b0, b1, b2, b3, b4, b5, b6, b7, b8, b9, b10, b11, b12, b13, b14, G2, c2, rfl, -⟩
    rfl
  case step =>
    rintro Lb a W i o ⟨b0, b1, b2, b3, b4, b5, b6, b7, b8, b9, b10, b11, b12, b13, b14, G2, c2, rfl, rfl, p8, p9, f0, f1⟩ ho hl' hdep
    have hi' : i < 15 := (Array.getElem?_eq_some_iff.1 ho).1
    have hi2 : i = 0 ∨ i = 1 ∨ i = 2 ∨ i = 3 ∨ i = 4 ∨ i = 5 ∨ i = 6 ∨ i = 7 ∨ i = 8 ∨ i = 9 ∨ i = 10 ∨ i = 11 ∨ i = 12 ∨ i = 13 ∨ i = 14 := by omega
    clear hi' hB bX hQ1
    replace p8 := Lib.hid p8
    replace p9 := Lib.hid p9
    replace f0 := Lib.hid f0
    replace f1 := Lib.hid f1
    rcases hi2 with rfl | rfl | rfl | rfl | rfl | rfl | rfl | rfl | rfl | rfl | rfl | rfl | rfl | rfl | rfl
    · cases ho
      obtain rfl : b0 = false := hl'
      clear hdep
      refine wpOp_step rfl (fun K hK => ?_)
      go_simp
      refine hK _ _ ?_; clear hK K
      exact ⟨true, b1, b2, b3, b4, b5, b6, b7, b8, b9, b10, b11, b12, b13, b14, G2, c2, rfl, rfl, p8.out, p9.out, f0.out, f1.out⟩
    · cases ho
      obtain rfl : b1 = false := hl'
      obtain rfl : b0 = true := hdep ⟨0, .data⟩ (by simp) rfl
      clear hdep
      refine wpOp_step rfl (fun K hK => ?_)
      simp only [cond_true]
      go_simp
      refine hK _ _ ?_; clear hK K
      exact ⟨true, true, b2, b3, b4, b5, b6, b7, b8, b9, b10, b11, b12, b13, b14, G2, c2, rfl, rfl, p8.out, p9.out, f0.out, f1.out⟩
    · cases ho
      obtain rfl : b2 = false := hl'
      obtain rfl : b1 = true := hdep ⟨1, .data⟩ (by simp) rfl
      clear hdep
      refine wpOp_step rfl (fun K hK => ?_)
      simp only [cond_true]
      go_simp
      refine hK _ _ ?_; clear hK K
      exact ⟨b0, true, true, b3, b4, b5, b6, b7, b8, b9, b10, b11, b12, b13, b14, G2, c2, rfl, rfl, p8.out, p9.out, f0.out, f1.out⟩
    · cases ho
      obtain rfl : b3 = false := hl'
      obtain rfl : b2 = true := hdep ⟨2, .guard⟩ (by simp) rfl
      clear hdep
      obtain rfl : b9 = false := by cases b9 with | false => rfl | true => exact absurd (p9.out rfl).1 (by simp)
      have hbx := (f1.out rfl).1
      refine wpOp_step rfl (fun K hK => ?_)
      refine step_load_sub ?hw 34 (.tmp 15) ?ho ⟨g, 0, none⟩ ?hx (.agg X) (hld.out _ hbx) ?_
      case hw => rfl
      case ho => rfl
      case hx => rfl
      refine hK _ _ ?_; clear hK K
      exact ⟨b0, b1, true, true, b4, b5, b6, b7, b8, false, b10, b11, b12, b13, b14, G2, c2, rfl, rfl, p8.out, by simp, f0.out, f1.out⟩
    · cases ho
      obtain rfl : b4 = false := hl'
      obtain rfl : b2 = true := hdep ⟨2, .guard⟩ (by simp) rfl
      clear hdep
      obtain rfl : b8 = false := by cases b8 with | false => rfl | true => exact absurd (p8.out rfl) (by simp)
      obtain rfl : b9 = false := by cases b9 with | false => rfl | true => exact absurd (p9.out rfl).2 (by simp)
      refine wpOp_step rfl (fun K hK => ?_)
      simp only [cond_true]
      go_simp
      refine hK _ _ ?_; clear hK K
      exact ⟨b0, b1, true, b3, true, b5, b6, b7, false, false, b10, b11, b12, b13, b14, G2, c2, rfl, rfl, by simp, by simp, f0.out, f1.out⟩
    · cases ho
      obtain rfl : b5 = false := hl'
      obtain rfl : b2 = true := hdep ⟨2, .guard⟩ (by simp) rfl
      clear hdep
      refine wpOp_step rfl (fun K hK => ?_)
      simp only [cond_true]
      go_simp
      refine hK _ _ ?_; clear hK K
      exact ⟨b0, b1, true, b3, b4, true, b6, b7, b8, b9, b10, b11, b12, b13, b14, G2, c2, rfl, rfl, p8.out, p9.out, f0.out, f1.out⟩
    · cases ho
      obtain rfl : b6 = false := hl'
      obtain rfl : b2 = true := hdep ⟨2, .guard⟩ (by simp) rfl
      clear hdep
      refine wpOp_step rfl (fun K hK => ?_)
      simp only [cond_true]
      go_simp
      refine hK _ _ ?_; clear hK K
      exact ⟨b0, b1, true, b3, b4, b5, true, b7, b8, b9, b10, b11, b12, b13, b14, G2, c2, rfl, rfl, p8.out, p9.out, f0.out, f1.out⟩
    · cases ho
      obtain rfl : b7 = false := hl'
      obtain rfl : b2 = true := hdep ⟨2, .guard⟩ (by simp) rfl
      clear hdep
      refine wpOp_step rfl (fun K hK => ?_)
      simp only [cond_true]
      go_simp
      refine hK _ _ ?_; clear hK K
      exact ⟨b0, b1, true, b3, b4, b5, b6, true, b8, b9, b10, b11, b12, b13, b14, G2, c2, rfl, rfl, p8.out, p9.out, f0.out, f1.out⟩
    · cases ho
      obtain rfl : b8 = false := hl'
      obtain rfl : b2 = true := hdep ⟨2, .guard⟩ (by simp) rfl
      obtain rfl : b4 = true := hdep ⟨4, .data⟩ (by simp) rfl
      obtain rfl : b5 = true := hdep ⟨5, .data⟩ (by simp) rfl
      obtain rfl : b6 = true := hdep ⟨6, .data⟩ (by simp) rfl
      obtain rfl : b7 = true := hdep ⟨7, .data⟩ (by simp) rfl
      clear hdep
      obtain rfl : b9 = false := by cases b9 with | false => rfl | true => exact absurd (p9.out rfl).2 (by simp)
      obtain ⟨hbX, hq1, -⟩ := f1.out rfl
      have hb0 := f0.out
      have HbX := Lib.hid hbX
      have Hq1 := Lib.hid hq1
      have Hb0 := Lib.hid hb0
      clear hbX hq1 hb0
      refine wpOp_step rfl (fun K hK => ?_)
      simp only [cond_true]
      go_simp
      (with_reducible refine (HRs.out _).mono ?_); rintro e x2 ⟨G3, c3, rfl, hQ3, hb2⟩
      refine hK _ _ ?_; clear hK K
      exact ⟨b0, b1, true, b3, true, true, true, true, true, false, b10, b11, b12, b13, b14, G3, c3, rfl, rfl, by simp, by simp, Hb0.out.trans (hb2.mono Hb0.out.size), fun _ => ⟨HbX.out.keep hb2, Hq1.out.keep hb2, fun _ => hQ3⟩⟩
    · cases ho
      obtain rfl : b9 = false := hl'
      obtain rfl : b2 = true := hdep ⟨2, .guard⟩ (by simp) rfl
      obtain rfl : b3 = true := hdep ⟨3, .data⟩ (by simp) rfl
      obtain rfl : b8 = true := hdep ⟨8, .data⟩ (by simp) rfl
      clear hdep
      obtain ⟨hbX, hq1, hq2⟩ := f1.out rfl
      have HS := Lib.hid (hSa1.out G2 c2 W hq1 (hq2 rfl))
      have Hb0 := Lib.hid f0.out
      clear hbX hq1 hq2
      refine wpOp_step rfl (fun K hK => ?_)
      simp only [cond_true]
      go_simp
      (with_reducible refine HS.out.mono ?_); rintro e x2 ⟨rfl, hb2⟩
      refine hK _ _ ?_; clear hK K
      exact ⟨b0, b1, true, true, b4, b5, b6, b7, true, true, b10, b11, b12, b13, b14, G2, c2, rfl, rfl, p8.out, by simp, Hb0.out.trans (hb2.mono Hb0.out.size), by simp⟩
    · cases ho
      obtain rfl : b10 = false := hl'
      obtain rfl : b2 = true := hdep ⟨2, .data⟩ (by simp) rfl
      obtain rfl : b9 = true := hdep ⟨9, .data⟩ (by simp) rfl
      clear hdep
      refine wpOp_step rfl (fun K hK => ?_)
      simp only [cond_true]
      go_simp
      refine hK _ _ ?_; clear hK K
      exact ⟨b0, b1, true, b3, b4, b5, b6, b7, b8, true, true, b11, b12, b13, b14, G2, c2, rfl, rfl, p8.out, p9.out, f0.out, f1.out⟩
    · cases ho
      obtain rfl : b11 = false := hl'
      obtain rfl : b10 = true := hdep ⟨10, .data⟩ (by simp) rfl
      obtain rfl : b9 = true := hdep ⟨9, .chain⟩ (by simp) rfl
      clear hdep
      refine wpOp_step rfl (fun K hK => ?_)
      simp only [cond_true]
      go_simp
      refine hK _ _ ?_; clear hK K
      exact ⟨b0, b1, b2, b3, b4, b5, b6, b7, b8, true, true, true, b12, b13, b14, G2, c2, rfl, rfl, p8.out, p9.out, f0.out, f1.out⟩
    · cases ho
      obtain rfl : b12 = false := hl'
      obtain rfl : b11 = true := hdep ⟨11, .guard⟩ (by simp) rfl
      clear hdep
      have Hb0 := Lib.hid f0.out
      refine wpOp_step rfl (fun K hK => ?_)
      simp only [cond_true]
      go_simp
      (with_reducible refine (HW.out _).mono ?_); rintro e x2 ⟨rfl, hb2⟩
      refine hK _ _ ?_; clear hK K
      exact ⟨b0, b1, b2, b3, b4, b5, b6, b7, b8, b9, b10, true, true, b13, b14, G2, c2, rfl, rfl, p8.out, p9.out, Hb0.out.trans (hb2.mono Hb0.out.size), fun e => ⟨(f1.out e).1.keep hb2, (f1.out e).2.1.keep hb2, fun e2 => ((f1.out e).2.2 e2).keep hb2⟩⟩
    · cases ho
      obtain rfl : b13 = false := hl'
      obtain rfl : b11 = true := hdep ⟨11, .data⟩ (by simp) rfl
      obtain rfl : b12 = true := hdep ⟨12, .data⟩ (by simp) rfl
      clear hdep
      refine wpOp_step rfl (fun K hK => ?_)
      simp only [cond_true]
      go_simp
      refine hK _ _ ?_; clear hK K
      exact ⟨b0, b1, b2, b3, b4, b5, b6, b7, b8, b9, b10, true, true, true, b14, G2, c2, rfl, rfl, p8.out, p9.out, f0.out, f1.out⟩
    · cases ho
      obtain rfl : b14 = false := hl'
      obtain rfl : b13 = true := hdep ⟨13, .data⟩ (by simp) rfl
      obtain rfl : b12 = true := hdep ⟨12, .chain⟩ (by simp) rfl
      clear hdep
      refine wpOp_step rfl (fun K hK => ?_)
      simp only [cond_true]
      go_simp
      refine hK _ _ ?_; clear hK K
      exact ⟨b0, b1, b2, b3, b4, b5, b6, b7, b8, b9, b10, b11, true, true, true, G2, c2, rfl, rfl, p8.out, p9.out, f0.out, f1.out⟩
  case done =>
    rintro Lb a W ⟨j0, j1, j2, j3, j4, j5, j6, j7, j8, j9, j10, j11, j12, j13, j14, G2, c2, rfl, rfl, -, -, f0, f1⟩ hall
    obtain rfl : j0 = true := hall 0 (by decide)
    obtain rfl : j1 = true := hall 1 (by decide)
    obtain rfl : j2 = true := hall 2 (by decide)
    obtain rfl : j3 = true := hall 3 (by decide)
    obtain rfl : j4 = true := hall 4 (by decide)
    obtain rfl : j5 = true := hall 5 (by decide)
    obtain rfl : j6 = true := hall 6 (by decide)
    obtain rfl : j7 = true := hall 7 (by decide)
    obtain rfl : j8 = true := hall 8 (by decide)
    obtain rfl : j9 = true := hall 9 (by decide)
    obtain rfl : j10 = true := hall 10 (by decide)
    obtain rfl : j11 = true := hall 11 (by decide)
    obtain rfl : j12 = true := hall 12 (by decide)
    obtain rfl : j13 = true := hall 13 (by decide)
    obtain rfl : j14 = true := hall 14 (by decide)
    clear hall
    have HB := Lib.hid f0
    clear f0 f1 hB bX hQ1
    simp only [cond_true]
    go_wp2_with fail
    go_ret
    exact ⟨rfl, HB.out⟩

end Tll
end Go.Proofs.Ytaoipbndmfjmhaa
