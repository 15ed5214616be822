/- The contract of the reference's Do, at each of the four operations. -/
import Derived.Test.YtaanhddgmiggfaaGreatRefMake
namespace Go.Proofs.YtaanhddgmiggfaaGreat.Ref
open Go.RowKit Go.Joins

set_option maxHeartbeats 2000000 in
theorem do_add (a b c d : Int) (w : World) (hx : vldB a b = true) (hy : vldB c d = true) :
    Calls Tryz.prog 68 #[.int .i64 0, .agg #[.int .i64 a, .int .i64 b], .agg #[.int .i64 c, .int .i64 d]] w fun e w' => e = .returned (ratV (mkN (a * d + c * b) (b * d))) ∧ Below w.heap.size w w' := by
  obtain ⟨b0, b1, a0, a1, -⟩ := vld_bd hx
  obtain ⟨d0, d1, c0, c1, -⟩ := vld_bd hy
  have Hx := Lib.hid hx
  have Hy := Lib.hid hy
  clear hx hy
  have hp1 := mulb a0 a1 (show -1073741824 ≤ d by omega) d1
  have hp2 := mulb c0 c1 (show -1073741824 ≤ b by omega) b1
  have hp3 := mulb a0 a1 c0 c1
  have hq1 := mulb (show -1073741824 ≤ b by omega) b1 (show -1073741824 ≤ d by omega) d1
  have hq2 := mulb (show -1073741824 ≤ b by omega) b1 c0 c1
  go_enter Tryz.func68, Tryz.ntmps68
  go_wp2_with fail
  refine (valid_any a b _ (by omega) (by omega) (by omega) (by omega)).mono ?_; rintro e w1 ⟨rfl, hb1⟩; rw [Hx.out]
  obtain ⟨hc, hf⟩ := bcell hb1
  have hz := hb1.size
  simp only [World.size_alloc] at hc hf hz
  go_wp2_with fail
  refine (valid_any c d _ (by omega) (by omega) (by omega) (by omega)).mono ?_; rintro e w2 ⟨rfl, hb2⟩; rw [Hy.out]
  replace hb2 := bnext hb1 hb2
  clear hc hf hz hb1
  obtain ⟨hc, hf⟩ := bcell hb2
  have hz := hb2.size
  simp only [World.size_alloc] at hc hf hz
  go_wp2_with fail
  refine (make_any _ _ _ (by omega) (by omega) (by omega) (by omega)).mono ?_; rintro e w4 ⟨rfl, hb4⟩
  replace hb4 := bnext hb2 hb4
  clear hb2 hc hf hz
  obtain ⟨hc, hf⟩ := bcell hb4
  have hz := hb4.size
  simp only [World.size_alloc] at hc hf hz
  obtain ⟨m, hm⟩ : ∃ m, m = mkN (a * d + c * b) (b * d) := ⟨_, rfl⟩
  rw [← hm]
  have Hm := Lib.hid hm
  clear hm hp1 hp2 hp3 hq1 hq2
  obtain ⟨m1, m2, m3⟩ := m
  simp only [ratV]
  go_wp2
  refine bodyPost_ret (v := ratV (m1, m2, m3)) (by simp [results, Tryz.results68, go_sem, ratV, hc]) rfl ⟨by rw [← Hm.out], ?_⟩
  have hB : Below w.heap.size w w4 := ((((Below.refl _ _).alloc (Nat.le_refl _) _).alloc (by simp) _).alloc (by simp; omega) _).trans (hb4.mono (by simp; omega))
  exact (hB.setCell (by simp; omega) _).setCell (by simp; omega) _

set_option maxHeartbeats 2000000 in
theorem do_sub (a b c d : Int) (w : World) (hx : vldB a b = true) (hy : vldB c d = true) :
    Calls Tryz.prog 68 #[.int .i64 1, .agg #[.int .i64 a, .int .i64 b], .agg #[.int .i64 c, .int .i64 d]] w fun e w' => e = .returned (ratV (mkN (a * d - c * b) (b * d))) ∧ Below w.heap.size w w' := by
  obtain ⟨b0, b1, a0, a1, -⟩ := vld_bd hx
  obtain ⟨d0, d1, c0, c1, -⟩ := vld_bd hy
  have Hx := Lib.hid hx
  have Hy := Lib.hid hy
  clear hx hy
  have hp1 := mulb a0 a1 (show -1073741824 ≤ d by omega) d1
  have hp2 := mulb c0 c1 (show -1073741824 ≤ b by omega) b1
  have hp3 := mulb a0 a1 c0 c1
  have hq1 := mulb (show -1073741824 ≤ b by omega) b1 (show -1073741824 ≤ d by omega) d1
  have hq2 := mulb (show -1073741824 ≤ b by omega) b1 c0 c1
  go_enter Tryz.func68, Tryz.ntmps68
  go_wp2_with fail
  refine (valid_any a b _ (by omega) (by omega) (by omega) (by omega)).mono ?_; rintro e w1 ⟨rfl, hb1⟩; rw [Hx.out]
  obtain ⟨hc, hf⟩ := bcell hb1
  have hz := hb1.size
  simp only [World.size_alloc] at hc hf hz
  go_wp2_with fail
  refine (valid_any c d _ (by omega) (by omega) (by omega) (by omega)).mono ?_; rintro e w2 ⟨rfl, hb2⟩; rw [Hy.out]
  replace hb2 := bnext hb1 hb2
  clear hc hf hz hb1
  obtain ⟨hc, hf⟩ := bcell hb2
  have hz := hb2.size
  simp only [World.size_alloc] at hc hf hz
  go_wp2_with fail
  refine (make_any _ _ _ (by omega) (by omega) (by omega) (by omega)).mono ?_; rintro e w4 ⟨rfl, hb4⟩
  replace hb4 := bnext hb2 hb4
  clear hb2 hc hf hz
  obtain ⟨hc, hf⟩ := bcell hb4
  have hz := hb4.size
  simp only [World.size_alloc] at hc hf hz
  obtain ⟨m, hm⟩ : ∃ m, m = mkN (a * d - c * b) (b * d) := ⟨_, rfl⟩
  rw [← hm]
  have Hm := Lib.hid hm
  clear hm hp1 hp2 hp3 hq1 hq2
  obtain ⟨m1, m2, m3⟩ := m
  simp only [ratV]
  go_wp2
  refine bodyPost_ret (v := ratV (m1, m2, m3)) (by simp [results, Tryz.results68, go_sem, ratV, hc]) rfl ⟨by rw [← Hm.out], ?_⟩
  have hB : Below w.heap.size w w4 := ((((Below.refl _ _).alloc (Nat.le_refl _) _).alloc (by simp) _).alloc (by simp; omega) _).trans (hb4.mono (by simp; omega))
  exact (hB.setCell (by simp; omega) _).setCell (by simp; omega) _

set_option maxHeartbeats 2000000 in
theorem do_mul (a b c d : Int) (w : World) (hx : vldB a b = true) (hy : vldB c d = true) :
    Calls Tryz.prog 68 #[.int .i64 2, .agg #[.int .i64 a, .int .i64 b], .agg #[.int .i64 c, .int .i64 d]] w fun e w' => e = .returned (ratV (mkN (a * c) (b * d))) ∧ Below w.heap.size w w' := by
  obtain ⟨b0, b1, a0, a1, -⟩ := vld_bd hx
  obtain ⟨d0, d1, c0, c1, -⟩ := vld_bd hy
  have Hx := Lib.hid hx
  have Hy := Lib.hid hy
  clear hx hy
  have hp1 := mulb a0 a1 (show -1073741824 ≤ d by omega) d1
  have hp2 := mulb c0 c1 (show -1073741824 ≤ b by omega) b1
  have hp3 := mulb a0 a1 c0 c1
  have hq1 := mulb (show -1073741824 ≤ b by omega) b1 (show -1073741824 ≤ d by omega) d1
  have hq2 := mulb (show -1073741824 ≤ b by omega) b1 c0 c1
  go_enter Tryz.func68, Tryz.ntmps68
  go_wp2_with fail
  refine (valid_any a b _ (by omega) (by omega) (by omega) (by omega)).mono ?_; rintro e w1 ⟨rfl, hb1⟩; rw [Hx.out]
  obtain ⟨hc, hf⟩ := bcell hb1
  have hz := hb1.size
  simp only [World.size_alloc] at hc hf hz
  go_wp2_with fail
  refine (valid_any c d _ (by omega) (by omega) (by omega) (by omega)).mono ?_; rintro e w2 ⟨rfl, hb2⟩; rw [Hy.out]
  replace hb2 := bnext hb1 hb2
  clear hc hf hz hb1
  obtain ⟨hc, hf⟩ := bcell hb2
  have hz := hb2.size
  simp only [World.size_alloc] at hc hf hz
  go_wp2_with fail
  refine (make_any _ _ _ (by omega) (by omega) (by omega) (by omega)).mono ?_; rintro e w4 ⟨rfl, hb4⟩
  replace hb4 := bnext hb2 hb4
  clear hb2 hc hf hz
  obtain ⟨hc, hf⟩ := bcell hb4
  have hz := hb4.size
  simp only [World.size_alloc] at hc hf hz
  obtain ⟨m, hm⟩ : ∃ m, m = mkN (a * c) (b * d) := ⟨_, rfl⟩
  rw [← hm]
  have Hm := Lib.hid hm
  clear hm hp1 hp2 hp3 hq1 hq2
  obtain ⟨m1, m2, m3⟩ := m
  simp only [ratV]
  go_wp2
  refine bodyPost_ret (v := ratV (m1, m2, m3)) (by simp [results, Tryz.results68, go_sem, ratV, hc]) rfl ⟨by rw [← Hm.out], ?_⟩
  have hB : Below w.heap.size w w4 := ((((Below.refl _ _).alloc (Nat.le_refl _) _).alloc (by simp) _).alloc (by simp; omega) _).trans (hb4.mono (by simp; omega))
  exact (hB.setCell (by simp; omega) _).setCell (by simp; omega) _

set_option maxHeartbeats 2000000 in
theorem do_div (a b c d : Int) (w : World) (hx : vldB a b = true) (hy : vldB c d = true) (hne : (c == 0) = false) :
    Calls Tryz.prog 68 #[.int .i64 3, .agg #[.int .i64 a, .int .i64 b], .agg #[.int .i64 c, .int .i64 d]] w fun e w' => e = .returned (ratV (mkN (a * d) (b * c))) ∧ Below w.heap.size w w' := by
  obtain ⟨b0, b1, a0, a1, -⟩ := vld_bd hx
  obtain ⟨d0, d1, c0, c1, -⟩ := vld_bd hy
  have Hx := Lib.hid hx
  have Hy := Lib.hid hy
  clear hx hy
  have hp1 := mulb a0 a1 (show -1073741824 ≤ d by omega) d1
  have hp2 := mulb c0 c1 (show -1073741824 ≤ b by omega) b1
  have hp3 := mulb a0 a1 c0 c1
  have hq1 := mulb (show -1073741824 ≤ b by omega) b1 (show -1073741824 ≤ d by omega) d1
  have hq2 := mulb (show -1073741824 ≤ b by omega) b1 c0 c1
  go_enter Tryz.func68, Tryz.ntmps68
  go_wp2_with fail
  refine (valid_any a b _ (by omega) (by omega) (by omega) (by omega)).mono ?_; rintro e w1 ⟨rfl, hb1⟩; rw [Hx.out]
  obtain ⟨hc, hf⟩ := bcell hb1
  have hz := hb1.size
  simp only [World.size_alloc] at hc hf hz
  go_wp2_with fail
  refine (valid_any c d _ (by omega) (by omega) (by omega) (by omega)).mono ?_; rintro e w2 ⟨rfl, hb2⟩; rw [Hy.out]
  replace hb2 := bnext hb1 hb2
  clear hc hf hz hb1
  obtain ⟨hc, hf⟩ := bcell hb2
  have hz := hb2.size
  simp only [World.size_alloc] at hc hf hz
  go_wp2_with fail
  refine (make_any _ _ _ (by omega) (by omega) (by omega) (by omega)).mono ?_; rintro e w4 ⟨rfl, hb4⟩
  replace hb4 := bnext hb2 hb4
  clear hb2 hc hf hz
  obtain ⟨hc, hf⟩ := bcell hb4
  have hz := hb4.size
  simp only [World.size_alloc] at hc hf hz
  obtain ⟨m, hm⟩ : ∃ m, m = mkN (a * d) (b * c) := ⟨_, rfl⟩
  rw [← hm]
  have Hm := Lib.hid hm
  clear hm hp1 hp2 hp3 hq1 hq2
  obtain ⟨m1, m2, m3⟩ := m
  simp only [ratV]
  go_wp2
  refine bodyPost_ret (v := ratV (m1, m2, m3)) (by simp [results, Tryz.results68, go_sem, ratV, hc]) rfl ⟨by rw [← Hm.out], ?_⟩
  have hB : Below w.heap.size w w4 := ((((Below.refl _ _).alloc (Nat.le_refl _) _).alloc (by simp) _).alloc (by simp; omega) _).trans (hb4.mono (by simp; omega))
  exact (hB.setCell (by simp; omega) _).setCell (by simp; omega) _

set_option maxHeartbeats 2000000 in
theorem do_bad (s a b c d : Int) (w : World) (h : (vldB a b && vldB c d) = false) (a0 : -9223372036854775808 ≤ a) (a1 : a ≤ 9223372036854775807) (b0 : -9223372036854775808 ≤ b) (b1 : b ≤ 9223372036854775807) (c0 : -9223372036854775808 ≤ c) (c1 : c ≤ 9223372036854775807) (d0 : -9223372036854775808 ≤ d) (d1 : d ≤ 9223372036854775807) :
    Calls Tryz.prog 68 #[.int .i64 s, .agg #[.int .i64 a, .int .i64 b], .agg #[.int .i64 c, .int .i64 d]] w fun e w' => e = .returned (ratV (0, 0, 2)) ∧ Below w.heap.size w w' := by
  cases hx : vldB a b
  · have Hx := Lib.hid hx
    clear hx h
    go_enter Tryz.func68, Tryz.ntmps68
    go_wp2_with fail
    refine (valid_any a b _ a0 a1 b0 b1).mono ?_; rintro e w1 ⟨rfl, hb1⟩; rw [Hx.out]
    obtain ⟨hc, hf⟩ := bcell hb1
    have hz := hb1.size
    simp only [World.size_alloc] at hc hf hz
    go_wp2
    refine bodyPost_ret (v := ratV (0, 0, 2)) (by simp [results, Tryz.results68, go_sem, ratV, hc]) rfl ⟨rfl, ?_⟩
    have hB : Below w.heap.size w w1 := ((((Below.refl _ _).alloc (Nat.le_refl _) _).alloc (by simp) _).alloc (by simp; omega) _).trans (hb1.mono (by simp; omega))
    exact (hB.setCell (by simp; omega) _).setCell (by simp; omega) _
  · have hy : vldB c d = false := by rw [hx] at h; simpa using h
    have Hx := Lib.hid hx
    have Hy := Lib.hid hy
    clear hx hy h
    go_enter Tryz.func68, Tryz.ntmps68
    go_wp2_with fail
    refine (valid_any a b _ a0 a1 b0 b1).mono ?_; rintro e w1 ⟨rfl, hb1⟩; rw [Hx.out]
    obtain ⟨hc, hf⟩ := bcell hb1
    have hz := hb1.size
    simp only [World.size_alloc] at hc hf hz
    go_wp2_with fail
    refine (valid_any c d _ c0 c1 d0 d1).mono ?_; rintro e w2 ⟨rfl, hb2⟩; rw [Hy.out]
    replace hb2 := bnext hb1 hb2
    clear hc hf hz hb1
    obtain ⟨hc, hf⟩ := bcell hb2
    have hz := hb2.size
    simp only [World.size_alloc] at hc hf hz
    go_wp2
    refine bodyPost_ret (v := ratV (0, 0, 2)) (by simp [results, Tryz.results68, go_sem, ratV, hc]) rfl ⟨rfl, ?_⟩
    have hB : Below w.heap.size w w2 := ((((Below.refl _ _).alloc (Nat.le_refl _) _).alloc (by simp) _).alloc (by simp; omega) _).trans (hb2.mono (by simp; omega))
    exact (hB.setCell (by simp; omega) _).setCell (by simp; omega) _

set_option maxHeartbeats 2000000 in
theorem do_by_zero (a b d : Int) (w : World) (hx : vldB a b = true) (hy : vldB 0 d = true) :
    Calls Tryz.prog 68 #[.int .i64 3, .agg #[.int .i64 a, .int .i64 b], .agg #[.int .i64 0, .int .i64 d]] w fun e w' => e = .returned (ratV (0, 0, 2)) ∧ Below w.heap.size w w' := by
  obtain ⟨b0, b1, a0, a1, -⟩ := vld_bd hx
  obtain ⟨d0, d1, c0, c1, -⟩ := vld_bd hy
  have Hx := Lib.hid hx
  have Hy := Lib.hid hy
  clear hx hy
  go_enter Tryz.func68, Tryz.ntmps68
  go_wp2_with fail
  refine (valid_any a b _ (by omega) (by omega) (by omega) (by omega)).mono ?_; rintro e w1 ⟨rfl, hb1⟩; rw [Hx.out]
  obtain ⟨hc, hf⟩ := bcell hb1
  have hz := hb1.size
  simp only [World.size_alloc] at hc hf hz
  go_wp2_with fail
  refine (valid_any 0 d _ (by omega) (by omega) (by omega) (by omega)).mono ?_; rintro e w2 ⟨rfl, hb2⟩; rw [Hy.out]
  replace hb2 := bnext hb1 hb2
  clear hc hf hz hb1
  obtain ⟨hc, hf⟩ := bcell hb2
  have hz := hb2.size
  simp only [World.size_alloc] at hc hf hz
  go_wp2
  refine bodyPost_ret (v := ratV (0, 0, 2)) (by simp [results, Tryz.results68, go_sem, ratV, hc]) rfl ⟨rfl, ?_⟩
  have hB : Below w.heap.size w w2 := ((((Below.refl _ _).alloc (Nat.le_refl _) _).alloc (by simp) _).alloc (by simp; omega) _).trans (hb2.mono (by simp; omega))
  exact (hB.setCell (by simp; omega) _).setCell (by simp; omega) _

theorem do_add_any (a b c d : Int) (w : World) (a0 : -9223372036854775808 ≤ a) (a1 : a ≤ 9223372036854775807) (b0 : -9223372036854775808 ≤ b) (b1 : b ≤ 9223372036854775807) (c0 : -9223372036854775808 ≤ c) (c1 : c ≤ 9223372036854775807) (d0 : -9223372036854775808 ≤ d) (d1 : d ≤ 9223372036854775807) :
    Calls Tryz.prog 68 #[.int .i64 0, .agg #[.int .i64 a, .int .i64 b], .agg #[.int .i64 c, .int .i64 d]] w fun e w' => e = .returned (ratV (addN a b c d)) ∧ Below w.heap.size w w' := by
  unfold addN
  cases h : vldB a b && vldB c d
  · exact do_bad _ a b c d w h a0 a1 b0 b1 c0 c1 d0 d1
  · rw [Bool.and_eq_true] at h
    exact do_add a b c d w h.1 h.2
theorem do_sub_any (a b c d : Int) (w : World) (a0 : -9223372036854775808 ≤ a) (a1 : a ≤ 9223372036854775807) (b0 : -9223372036854775808 ≤ b) (b1 : b ≤ 9223372036854775807) (c0 : -9223372036854775808 ≤ c) (c1 : c ≤ 9223372036854775807) (d0 : -9223372036854775808 ≤ d) (d1 : d ≤ 9223372036854775807) :
    Calls Tryz.prog 68 #[.int .i64 1, .agg #[.int .i64 a, .int .i64 b], .agg #[.int .i64 c, .int .i64 d]] w fun e w' => e = .returned (ratV (subN a b c d)) ∧ Below w.heap.size w w' := by
  unfold subN
  cases h : vldB a b && vldB c d
  · exact do_bad _ a b c d w h a0 a1 b0 b1 c0 c1 d0 d1
  · rw [Bool.and_eq_true] at h
    exact do_sub a b c d w h.1 h.2
theorem do_mul_any (a b c d : Int) (w : World) (a0 : -9223372036854775808 ≤ a) (a1 : a ≤ 9223372036854775807) (b0 : -9223372036854775808 ≤ b) (b1 : b ≤ 9223372036854775807) (c0 : -9223372036854775808 ≤ c) (c1 : c ≤ 9223372036854775807) (d0 : -9223372036854775808 ≤ d) (d1 : d ≤ 9223372036854775807) :
    Calls Tryz.prog 68 #[.int .i64 2, .agg #[.int .i64 a, .int .i64 b], .agg #[.int .i64 c, .int .i64 d]] w fun e w' => e = .returned (ratV (mulN a b c d)) ∧ Below w.heap.size w w' := by
  unfold mulN
  cases h : vldB a b && vldB c d
  · exact do_bad _ a b c d w h a0 a1 b0 b1 c0 c1 d0 d1
  · rw [Bool.and_eq_true] at h
    exact do_mul a b c d w h.1 h.2
theorem do_div_any (a b c d : Int) (w : World) (a0 : -9223372036854775808 ≤ a) (a1 : a ≤ 9223372036854775807) (b0 : -9223372036854775808 ≤ b) (b1 : b ≤ 9223372036854775807) (c0 : -9223372036854775808 ≤ c) (c1 : c ≤ 9223372036854775807) (d0 : -9223372036854775808 ≤ d) (d1 : d ≤ 9223372036854775807) :
    Calls Tryz.prog 68 #[.int .i64 3, .agg #[.int .i64 a, .int .i64 b], .agg #[.int .i64 c, .int .i64 d]] w fun e w' => e = .returned (ratV (divN a b c d)) ∧ Below w.heap.size w w' := by
  unfold divN
  cases h : vldB a b && vldB c d
  · exact do_bad _ a b c d w h a0 a1 b0 b1 c0 c1 d0 d1
  · rw [Bool.and_eq_true] at h
    by_cases hc : c = 0
    · subst hc
      rw [Int.mul_zero, mk_zero]
      exact do_by_zero a b d w h.1 h.2
    · exact do_div a b c d w h.1 h.2 (by simpa using hc)
end Go.Proofs.YtaanhddgmiggfaaGreat.Ref
