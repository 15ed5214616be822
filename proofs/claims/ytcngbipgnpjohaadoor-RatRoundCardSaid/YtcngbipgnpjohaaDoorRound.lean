/- The walk of the law RatRound: it returns true for every number, valid or not. -/
import Derived.Test.YtcngbipgnpjohaaDoorAwake
import Derived.Deep.RegionHeld3
namespace Go.Proofs.YtcngbipgnpjohaaDoor.Round
open Go.RowKit Go.Joins

theorem ediv_bd {n d m : Int} (hd : 0 < d) (h0 : -m ≤ n) (h1 : n ≤ m) (hm : 0 ≤ m) : -m ≤ n / d ∧ n / d ≤ m := by
  constructor
  · rw [Int.le_ediv_iff_mul_le hd]
    have : m * 1 ≤ m * d := Int.mul_le_mul_of_nonneg_left (by omega) hm
    rw [Int.neg_mul]; omega
  · have h2 : n / d * 1 ≤ m ∨ n / d < 0 := by
      by_cases h3 : n / d < 0
      · exact Or.inr h3
      · left
        have h4 : n / d * 1 ≤ n / d * d := Int.mul_le_mul_of_nonneg_left (by omega) (by omega)
        have h5 := Int.ediv_mul_le n (show d ≠ 0 by omega)
        omega
    omega
theorem sgn_le {a b : Int} (h : a ≤ b) : sgnI a b ≤ 0 := by unfold sgnI; split <;> (try split) <;> omega
/-- What the law asks of Floor and Ceil at a valid number. -/
theorem round_facts {n d : Int} (h : vldB n d = true) : cmpN (floorN n d) 1 n d ≤ 0 ∧ cmpN n d (ceilN n d) 1 ≤ 0 ∧ ceilN n d - floorN n d ≤ 1 ∧ (ceilN n d == floorN n d) = (d == 1) ∧ -1073741824 ≤ floorN n d ∧ floorN n d ≤ 1073741824 ∧ -1073741824 ≤ ceilN n d ∧ ceilN n d ≤ 1073741824 := by
  obtain ⟨d0, d1, n0, n1, hg⟩ := vld_bd h
  have e1 : floorN n d = n / d := by unfold floorN; rw [h]; rfl
  have e2 : ceilN n d = -(-n / d) := by unfold ceilN; rw [h]; rfl
  rw [e1, e2]
  obtain ⟨l0, l1⟩ := ediv_bd (m := 1073741824) (show 0 < d by omega) (by omega) n1 (by decide)
  obtain ⟨u0, u1⟩ := ediv_bd (n := -n) (m := 1073741824) (show 0 < d by omega) (by omega) (by omega) (by decide)
  have f1 := Int.ediv_mul_le n (show d ≠ 0 by omega)
  have f2 := Int.ediv_mul_le (-n) (show d ≠ 0 by omega)
  have f3 := Int.lt_ediv_add_one_mul_self n (show 0 < d by omega)
  have f4 := Int.lt_ediv_add_one_mul_self (-n) (show 0 < d by omega)
  have v1 : ∀ m : Int, -1073741824 ≤ m → m ≤ 1073741824 → vldB m 1 = true := fun m a b => by rw [vld_in (by decide) (by decide) a b]; simp
  refine ⟨?_, ?_, ?_, ?_, l0, l1, by omega, by omega⟩
  · unfold cmpN; rw [v1 _ l0 l1, h]; exact sgn_le (by simpa using f1)
  · unfold cmpN; rw [v1 _ (by omega) (by omega), h]; refine sgn_le ?_; rw [Int.neg_mul]; omega
  · rw [Int.add_mul] at f3 f4
    refine Int.not_lt.1 fun hc => ?_
    have : (n / d + -n / d + 2) * d ≤ 0 * d := Int.mul_le_mul_of_nonneg_right (by omega) (by omega)
    rw [Int.add_mul, Int.add_mul] at this
    omega
  · rw [Bool.eq_iff_iff]
    simp only [beq_iff_eq]
    constructor
    · intro he
      have h5 : n / d * d = n := by
        have : -(n / d) * d = -n / d * d := by rw [show -(n / d) = -n / d by omega]
        rw [Int.neg_mul] at this
        omega
      have h6 : d ∣ n := ⟨n / d, by rw [Int.mul_comm]; exact h5.symm⟩
      have h7 : Int.gcd n d = d.natAbs := by rw [Int.gcd_comm]; exact Int.gcd_eq_left_iff_dvd (by omega) |>.2 h6 |> fun e => by omega
      omega
    · intro hd; subst hd; simp

set_option maxHeartbeats 4000000 in
set_option maxRecDepth 100000 in
theorem walk (n d : Int) (w : World) (he : Env w) (n0 : -9223372036854775808 ≤ n) (n1 : n ≤ 9223372036854775807) (d0 : -9223372036854775808 ≤ d) (d1 : d ≤ 9223372036854775807) :
    Calls Tryd.prog 7 #[.agg #[.int .i64 n, .int .i64 d]] w fun e w' => e = .returned (.bool true) ∧ Below w.heap.size w w' := by
  have st := (Sts.start he).new n d 23
  clear he
  obtain ⟨b2, hb2⟩ : ∃ b, b = w.heap.size := ⟨_, rfl⟩
  have HB2 := Lib.hid hb2
  rw [← hb2] at st
  clear hb2
  go_enter Tryd.func7, Tryd.ntmps7
  go_wp2_with fail
  rw [← HB2.out]
  obtain ⟨l2, x2, y2⟩ := st.get b2 n d (by simp)
  go_region_held3 (fun w' => w'.cell? ⟨b2, 0, none⟩ = some (.int .i64 n) ∧ w'.cell? ⟨b2, 1, none⟩ = some (.int .i64 d) ∧ Sts w w' [(b2, n, d)])
    (first
      | exact ⟨x2, y2, st⟩
      | exact ⟨(st.drew1.get b2 n d (by simp)).c0, (st.drew1.get b2 n d (by simp)).c1, st.drew1⟩
      | (go_split_ands
         refine ⟨?_, ?_, ?_⟩
         · exact ((Sts.keep (by assumption) (by assumption)).get b2 n d (by simp)).c0
         · exact ((Sts.keep (by assumption) (by assumption)).get b2 n d (by simp)).c1
         · exact Sts.keep (by assumption) (by assumption)))
    (first
      | (go_at_call 15; refine (floor_any n d _ n0 n1 d0 d1).mono ?_; rintro e w1 ⟨rfl, hb⟩)
      | (go_at_call 17; refine (ceil_any n d _ n0 n1 d0 d1).mono ?_; rintro e w1 ⟨rfl, hb⟩))
  rename_i w1 hs
  obtain ⟨-, -, st1⟩ := hs
  clear st l2 x2 y2
  cases hv : vldB n d
  · have hl : floorN n d = 0 := by unfold floorN; simp [hv]
    have hh : ceilN n d = 0 := by unfold ceilN; simp [hv]
    rw [hl, hh]
    have HV := Lib.hid hv
    clear hl hh hv
    obtain ⟨l2, x2, y2⟩ := st1.get b2 n d (by simp)
    go_wp2_with fail
    refine (valid_any n d _ n0 n1 d0 d1).mono ?_; rintro e w2 ⟨rfl, hb⟩; rw [HV.out]
    replace st1 := st1.keep hb
    clear hb l2 x2 y2
    go_wp2_with fail
    refine (awake_any _ st1.e).mono ?_; rintro e w3 ⟨rfl, hb⟩
    replace st1 := st1.keep hb
    clear hb
    go_wp2
    go_ret
    exact ⟨rfl, st1.b⟩
  · obtain ⟨r1, r2, r3, r4, r5, r6, r7, r8⟩ := round_facts hv
    have HV := Lib.hid hv
    clear hv
    generalize floorN n d = lo at r1 r3 r4 r5 r6 ⊢
    generalize ceilN n d = hi at r2 r3 r4 r7 r8 ⊢
    obtain ⟨c1, h1⟩ : ∃ c, c = cmpN lo 1 n d := ⟨_, rfl⟩
    obtain ⟨c2, h2⟩ : ∃ c, c = cmpN n d hi 1 := ⟨_, rfl⟩
    rw [← h1] at r1
    rw [← h2] at r2
    have H1 := Lib.hid h1
    have H2 := Lib.hid h2
    clear h1 h2
    obtain ⟨q, hq⟩ : ∃ q, (d == 1) = q := ⟨_, rfl⟩
    rw [hq] at r4
    obtain ⟨l2, x2, y2⟩ := st1.get b2 n d (by simp)
    go_wp2_with fail
    refine (valid_any n d _ n0 n1 d0 d1).mono ?_; rintro e w2 ⟨rfl, hb⟩; rw [HV.out]
    replace st1 := st1.keep hb
    clear hb l2 x2 y2
    obtain ⟨l2, x2, y2⟩ := st1.get b2 n d (by simp)
    go_wp2_with fail
    refine (cmp_any lo 1 n d _ (by omega) (by omega) (by decide) (by decide) n0 n1 d0 d1).mono ?_; rintro e w3 ⟨rfl, hb⟩; rw [← H1.out]
    replace st1 := ((st1.new lo 1 23).new hi 1 23).keep hb
    simp only [World.size_alloc] at st1
    clear hb l2 x2 y2
    generalize w2.heap.size + 1 = b6 at st1 ⊢
    generalize w2.heap.size = b5 at st1 ⊢
    obtain ⟨l2, x2, y2⟩ := st1.get b2 n d (by simp)
    obtain ⟨l6, x6, y6⟩ := st1.get b6 hi 1 (by simp)
    go_wp2_with fail
    refine (cmp_any n d hi 1 _ n0 n1 d0 d1 (by omega) (by omega) (by decide) (by decide)).mono ?_; rintro e w4 ⟨rfl, hb⟩; rw [← H2.out]
    replace st1 := st1.keep hb
    clear hb l2 x2 y2 l6 x6 y6
    obtain ⟨l2, x2, y2⟩ := st1.get b2 n d (by simp)
    go_wp2_with fail
    refine (awake_any _ st1.e).mono ?_; rintro e w5 ⟨rfl, hb⟩
    replace st1 := st1.keep hb
    clear hb l2 x2 y2
    go_wp2
    go_ret
    exact ⟨rfl, st1.b⟩
end Go.Proofs.YtcngbipgnpjohaaDoor.Round
