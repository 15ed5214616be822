/- The reference's operations of numbers that fit, and its value of a bucket. -/
import Derived.Test.YtaanhddgmiggfaaGreatRefDo
import Derived.Test.YtaanhddgmiggfaaGreatRGood
namespace Go.Proofs.YtaanhddgmiggfaaGreat.Ref
open Go.RowKit Go.Joins Num

section
variable {r s : Rat} (hr : Fit r) (hs : Fit s) (w : World)
include hr hs
theorem add_r : Calls Tryz.prog 68 #[.int .i64 0, .agg #[.int .i64 r.num, .int .i64 r.den], .agg #[.int .i64 s.num, .int .i64 s.den]] w fun e w' => e = .returned (ratV (ofR (r + s))) ∧ Below w.heap.size w w' := by
  have h1 := fit_bd hr
  have h2 := fit_bd hs
  rw [← addN_r hr hs]
  exact do_add_any _ _ _ _ w (by omega) (by omega) (by omega) (by omega) (by omega) (by omega) (by omega) (by omega)
theorem sub_r : Calls Tryz.prog 68 #[.int .i64 1, .agg #[.int .i64 r.num, .int .i64 r.den], .agg #[.int .i64 s.num, .int .i64 s.den]] w fun e w' => e = .returned (ratV (ofR (r - s))) ∧ Below w.heap.size w w' := by
  have h1 := fit_bd hr
  have h2 := fit_bd hs
  rw [← subN_r hr hs]
  exact do_sub_any _ _ _ _ w (by omega) (by omega) (by omega) (by omega) (by omega) (by omega) (by omega) (by omega)
theorem mul_r : Calls Tryz.prog 68 #[.int .i64 2, .agg #[.int .i64 r.num, .int .i64 r.den], .agg #[.int .i64 s.num, .int .i64 s.den]] w fun e w' => e = .returned (ratV (ofR (r * s))) ∧ Below w.heap.size w w' := by
  have h1 := fit_bd hr
  have h2 := fit_bd hs
  rw [← mulN_r hr hs]
  exact do_mul_any _ _ _ _ w (by omega) (by omega) (by omega) (by omega) (by omega) (by omega) (by omega) (by omega)
theorem div_r (h0 : s ≠ 0) : Calls Tryz.prog 68 #[.int .i64 3, .agg #[.int .i64 r.num, .int .i64 r.den], .agg #[.int .i64 s.num, .int .i64 s.den]] w fun e w' => e = .returned (ratV (ofR (r / s))) ∧ Below w.heap.size w w' := by
  have h1 := fit_bd hr
  have h2 := fit_bd hs
  rw [← divN_r hr hs h0]
  exact do_div_any _ _ _ _ w (by omega) (by omega) (by omega) (by omega) (by omega) (by omega) (by omega) (by omega)
theorem cmp_r : Calls Tryz.prog 61 #[.agg #[.int .i64 r.num, .int .i64 r.den], .agg #[.int .i64 s.num, .int .i64 s.den]] w fun e w' => e = .returned (.int .i64 (cmpQ r s)) ∧ Below w.heap.size w w' := by
  have h1 := fit_bd hr
  have h2 := fit_bd hs
  unfold cmpQ
  rw [← cmpN_r hr hs]
  exact cmp_any _ _ _ _ w (by omega) (by omega) (by omega) (by omega) (by omega) (by omega) (by omega) (by omega)
end

set_option maxHeartbeats 1000000 in
theorem value_r {b r t : Rat} (hb : Fit b) (hr : Fit r) (ht : Fit t) (w : World) :
    Calls Tryz.prog 60 #[.agg #[.int .i64 b.num, .int .i64 b.den, .int .i64 r.num, .int .i64 r.den], .agg #[.int .i64 t.num, .int .i64 t.den]] w fun e w' => e = .returned (ratV (valV b r t)) ∧ Below w.heap.size w w' := by
  unfold valV
  have HM : ∀ W : World, _ := fun W => mul_r hr ht W
  by_cases hm : Fit (r * t)
  · rw [if_pos hm]
    rw [ofR_yes hm] at HM
    have HA : ∀ W : World, _ := fun W => add_r hb hm W
    have HM := Lib.hid HM
    have HA := Lib.hid HA
    generalize hq : ofR (b + r * t) = q at HA ⊢
    obtain ⟨q1, q2, q3⟩ := q
    clear hq hm
    generalize (r * t).num = m1 at HM HA
    generalize ((r * t).den : Int) = m2 at HM HA
    simp only [ratV] at HM HA ⊢
    go_enter Tryz.func60, Tryz.ntmps60
    go_wp2_with fail
    refine (HM.out _).mono ?_; rintro e w1 ⟨rfl, hb1⟩
    obtain ⟨hc, hf⟩ := bcell hb1
    have hz := hb1.size
    simp only [World.size_alloc] at hc hf hz
    have k0 : w.heap.size < w1.heap.size := by omega
    have k1 : w.heap.size + 1 < w1.heap.size := by omega
    go_wp2_with fail
    refine (HA.out _).mono ?_; rintro e w2 ⟨rfl, hb2⟩
    replace hb2 := below_allocs1 hb1 hb1.size hb2
    clear hc hf hb1 hz k0 k1
    obtain ⟨hc, hf⟩ := bcell hb2
    have hz := hb2.size
    simp only [World.size_alloc] at hc hf hz
    have hB : Below w.heap.size w w2 := ((((Below.refl _ w).alloc (Nat.le_refl _) _).alloc (by simp) _).alloc (by simp; omega) _).trans (hb2.mono (by simp; omega))
    go_wp2
    refine bodyPost_ret (v := ratV (q1, q2, q3)) (by simp [results, Tryz.results60, go_sem, ratV, hc]) rfl ⟨rfl, ?_⟩
    (have hBs := hB.size; (try simp only [World.size_alloc] at hBs); repeat' (first | (with_reducible exact hB) | (with_reducible exact hBs) | (with_reducible refine Below.drew ?_) | (with_reducible refine below_drewN ?_ _) | (with_reducible refine Below.setCell ?_ ?_ _) | (with_reducible refine Below.alloc ?_ ?_ _) | go_size | omega | (simp; omega)))
  · rw [if_neg hm]
    rw [ofR_no hm] at HM
    have HM := Lib.hid HM
    simp only [ratV] at HM ⊢
    go_enter Tryz.func60, Tryz.ntmps60
    go_wp2_with fail
    refine (HM.out _).mono ?_; rintro e w1 ⟨rfl, hb1⟩
    obtain ⟨hc, hf⟩ := bcell hb1
    have hz := hb1.size
    simp only [World.size_alloc] at hc hf hz
    have k2 : w.heap.size + 1 + 1 < w1.heap.size := by omega
    have hB : Below w.heap.size w w1 := ((((Below.refl _ w).alloc (Nat.le_refl _) _).alloc (by simp) _).alloc (by simp; omega) _).trans (hb1.mono (by simp; omega))
    go_wp2
    refine bodyPost_ret (v := ratV (0, 0, 3)) (by simp [results, Tryz.results60, go_sem, ratV, hc, k2]) rfl ⟨rfl, ?_⟩
    (have hBs := hB.size; (try simp only [World.size_alloc] at hBs); repeat' (first | (with_reducible exact hB) | (with_reducible exact hBs) | (with_reducible refine Below.drew ?_) | (with_reducible refine below_drewN ?_ _) | (with_reducible refine Below.setCell ?_ ?_ _) | (with_reducible refine Below.alloc ?_ ?_ _) | go_size | omega | (simp; omega)))
end Go.Proofs.YtaanhddgmiggfaaGreat.Ref
