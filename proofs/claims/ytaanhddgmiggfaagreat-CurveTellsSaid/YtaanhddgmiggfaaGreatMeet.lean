/- curve.meeting at every two buckets. -/
import Derived.Test.YtaanhddgmiggfaaGreatNf
namespace Go.Proofs.YtaanhddgmiggfaaGreat
open Go.RowKit Go.Joins Num

/-- What rat.Div returns at valid numbers. -/
def divQ (r s : Rat) : Int × Int × Int := if s = 0 then (0, 0, 2) else ofR (r / s)
theorem div_q {r s : Rat} (hr : Fit r) (hs : Fit s) (w : World) : Calls Tryz.prog 78 #[.agg #[.int .i64 r.num, .int .i64 r.den], .agg #[.int .i64 s.num, .int .i64 s.den]] w fun e w' => e = .returned (ratV (divQ r s)) ∧ Below w.heap.size w w' := by
  unfold divQ
  by_cases h0 : s = 0
  · rw [if_pos h0]
    subst h0
    have h1 := fit_bd hr
    have hd : divN r.num r.den (0 : Rat).num (0 : Rat).den = (0, 0, 2) := by
      unfold divN mkN
      have e : ((r.den : Int) * (0 : Rat).num) = 0 := by simp
      rw [e]
      split <;> simp
    rw [← hd]
    exact div_any _ _ _ _ w (by omega) (by omega) (by omega) (by omega) (by decide) (by decide) (by decide) (by decide)
  · rw [if_neg h0]
    exact div_r hr hs w h0

/-- What curve.meeting returns. -/
def meetW (b r c s : Rat) : Int × Int × Int := if Fit (c - b) ∧ Fit (r - s) then divQ (c - b) (r - s) else (0, 0, 3)
set_option maxHeartbeats 2000000 in
theorem meeting_q {b r c s : Rat} (hb : Fit b) (hr : Fit r) (hc : Fit c) (hs : Fit s) (w : World) :
    Calls Tryz.prog 71 #[.agg #[.int .i64 b.num, .int .i64 b.den, .int .i64 r.num, .int .i64 r.den], .agg #[.int .i64 c.num, .int .i64 c.den, .int .i64 s.num, .int .i64 s.den]] w fun e w' => e = .returned (ratV (meetW b r c s)) ∧ Below w.heap.size w w' := by
  unfold meetW
  have HM : ∀ W : World, _ := fun W => sub_r hc hb W
  have HA : ∀ W : World, _ := fun W => sub_r hr hs W
  by_cases hm : Fit (c - b)
  · simp only [hm, true_and]
    by_cases ha : Fit (r - s)
    · have HD : ∀ W : World, _ := fun W => div_q hm ha W
      rw [ofR_yes ha] at HA
      rw [ofR_yes hm] at HM
      rw [if_pos ha]
      generalize (r - s).num = q1 at HA HD
      generalize ((r - s).den : Int) = q2 at HA HD
      generalize (c - b).num = m1 at HM HD
      generalize ((c - b).den : Int) = m2 at HM HD
      generalize hq : divQ (c - b) (r - s) = q at HD ⊢
      obtain ⟨p1, p2, p3⟩ := q
      have HM := Lib.hid HM
      have HA := Lib.hid HA
      have HD := Lib.hid HD
      clear hm ha hq
      simp only [ratV] at HM HA HD ⊢
      go_enter Tryz.func71, Tryz.ntmps71
      go_wp2_with fail
      refine (HM.out _).mono ?_; rintro e w1 ⟨rfl, hb1⟩
      obtain ⟨hc, hf⟩ := bcell hb1
      have hz := hb1.size
      simp only [World.size_alloc] at hc hf hz
      have k0 : w.heap.size < w1.heap.size := by omega
      have k1 : w.heap.size + 1 < w1.heap.size := by omega
      go_wp2_with fail
      refine (HA.out _).mono ?_; rintro e w2 ⟨rfl, hb2⟩
      have hx := (Has.new w1 m1 m2 25).keep hb2
      replace hb2 := below_allocs1 hb1 hb1.size hb2
      clear hc hf hz k0 k1
      have x0 := (hx.alloc (.cells #[.int .i64 q1, .int .i64 q2] 25)).c0
      have x1 := (hx.alloc (.cells #[.int .i64 q1, .int .i64 q2] 25)).c1
      clear hb1
      generalize w1.heap.size = b1 at *
      go_wp2_with fail
      refine (HD.out _).mono ?_; rintro e w3 ⟨rfl, hb3⟩
      replace hb3 := below_allocs1 hb2 hb2.size hb3
      clear hb2
      obtain ⟨hc, hf⟩ := bcell hb3
      have hz := hb3.size
      simp only [World.size_alloc] at hc hf hz
      have hB : Below w.heap.size w w3 := ((((Below.refl _ w).alloc (Nat.le_refl _) _).alloc (by simp) _).alloc (by simp; omega) _).trans (hb3.mono (by simp; omega))
      have k2 : w.heap.size + 1 + 1 < w3.heap.size := by omega
      go_wp2
      refine bodyPost_ret (v := ratV (p1, p2, p3)) (by simp [results, Tryz.results71, go_sem, ratV, hc]) rfl ⟨rfl, ?_⟩
      (have hBs := hB.size; (try simp only [World.size_alloc] at hBs); repeat' (first | (with_reducible exact hB) | (with_reducible exact hBs) | (with_reducible refine Below.drew ?_) | (with_reducible refine below_drewN ?_ _) | (with_reducible refine Below.setCell ?_ ?_ _) | (with_reducible refine Below.alloc ?_ ?_ _) | go_size | omega | (simp; omega)))
    · rw [ofR_no ha] at HA
      rw [ofR_yes hm] at HM
      rw [if_neg ha]
      have HM := Lib.hid HM
      have HA := Lib.hid HA
      clear hm ha
      simp only [ratV] at HM HA ⊢
      go_enter Tryz.func71, Tryz.ntmps71
      go_wp2_with fail
      refine (HM.out _).mono ?_; rintro e w1 ⟨rfl, hb1⟩
      obtain ⟨hc, hf⟩ := bcell hb1
      have hz := hb1.size
      simp only [World.size_alloc] at hc hf hz
      have k0 : w.heap.size < w1.heap.size := by omega
      have k1 : w.heap.size + 1 < w1.heap.size := by omega
      go_wp2_with fail
      refine (HA.out _).mono ?_; rintro e w2 ⟨rfl, hb2⟩
      replace hb2 := below_allocs1 hb1 hb1.size hb2
      clear hc hf hz k0 k1
      obtain ⟨hc, hf⟩ := bcell hb2
      have hz := hb2.size
      simp only [World.size_alloc] at hc hf hz
      have hB : Below w.heap.size w w2 := ((((Below.refl _ w).alloc (Nat.le_refl _) _).alloc (by simp) _).alloc (by simp; omega) _).trans (hb2.mono (by simp; omega))
      have k2 : w.heap.size + 1 + 1 < w2.heap.size := by omega
      clear hb1
      go_wp2
      refine bodyPost_ret (v := ratV (0, 0, 3)) (by simp [results, Tryz.results71, go_sem, ratV, hc, k2]) rfl ⟨rfl, ?_⟩
      (have hBs := hB.size; (try simp only [World.size_alloc] at hBs); repeat' (first | (with_reducible exact hB) | (with_reducible exact hBs) | (with_reducible refine Below.drew ?_) | (with_reducible refine below_drewN ?_ _) | (with_reducible refine Below.setCell ?_ ?_ _) | (with_reducible refine Below.alloc ?_ ?_ _) | go_size | omega | (simp; omega)))
  · rw [ofR_no hm] at HM
    simp only [hm, false_and, if_false]
    have HM := Lib.hid HM
    clear hm HA
    simp only [ratV] at HM ⊢
    go_enter Tryz.func71, Tryz.ntmps71
    go_wp2_with fail
    refine (HM.out _).mono ?_; rintro e w1 ⟨rfl, hb1⟩
    obtain ⟨hc, hf⟩ := bcell hb1
    have hz := hb1.size
    simp only [World.size_alloc] at hc hf hz
    have hB : Below w.heap.size w w1 := ((((Below.refl _ w).alloc (Nat.le_refl _) _).alloc (by simp) _).alloc (by simp; omega) _).trans (hb1.mono (by simp; omega))
    have k2 : w.heap.size + 1 + 1 < w1.heap.size := by omega
    go_wp2
    refine bodyPost_ret (v := ratV (0, 0, 3)) (by simp [results, Tryz.results71, go_sem, ratV, hc, k2]) rfl ⟨rfl, ?_⟩
    (have hBs := hB.size; (try simp only [World.size_alloc] at hBs); repeat' (first | (with_reducible exact hB) | (with_reducible exact hBs) | (with_reducible refine Below.drew ?_) | (with_reducible refine below_drewN ?_ _) | (with_reducible refine Below.setCell ?_ ?_ _) | (with_reducible refine Below.alloc ?_ ?_ _) | go_size | omega | (simp; omega)))
end Go.Proofs.YtaanhddgmiggfaaGreat
