/- The walk of the law RatLong: it returns true for every uint16. -/
import Derived.Test.YtcngbipgnpjohaaDoorAwake
namespace Go.Proofs.YtcngbipgnpjohaaDoor.Long
open Go.RowKit Go.Joins

theorem mk_one (n : Int) : mkN n 1 = if n.natAbs > 1073741824 then (0, 0, 3) else (n, 1, 0) := by
  unfold mkN
  simp only [Int.gcd_one_right]
  rw [if_neg (by decide)]
  by_cases h : n.natAbs > 1073741824
  · rw [if_pos (by left; simp; omega), if_pos h]
  · rw [if_neg (by simp; omega), if_neg h]
    by_cases hn : n < 0
    · simp [hn]; omega
    · simp [hn]; omega
theorem vld_one {n : Int} (h0 : -1073741824 ≤ n) (h1 : n ≤ 1073741824) : vldB n 1 = true := by
  rw [vld_in (by decide) (by decide) h0 h1]; simp
theorem long_a {n : Int} (h0 : 0 ≤ n) (h1 : n ≤ 1000) : addN 1073741824 1 (-n) 1 = (1073741824 - n, 1, 0) := by
  unfold addN
  rw [vld_one (by decide) (by decide), vld_one (by omega) (by omega)]
  simp only [Bool.and_self, if_true]
  rw [show (1073741824 * 1 + -n * 1 : Int) = 1073741824 - n by omega, show (1 * 1 : Int) = 1 by decide, mk_one, if_neg (by omega)]
theorem long_b {n : Int} (h0 : 0 ≤ n) (h1 : n ≤ 1000) : addN 1073741824 1 (n + 1) 1 = (0, 0, 3) := by
  unfold addN
  rw [vld_one (by decide) (by decide), vld_one (by omega) (by omega)]
  simp only [Bool.and_self, if_true]
  rw [show (1073741824 * 1 + (n + 1) * 1 : Int) = 1073741825 + n by omega, show (1 * 1 : Int) = 1 by decide, mk_one, if_pos (by omega)]
theorem long_c {n : Int} (h0 : 0 ≤ n) (h1 : n ≤ 1000) : mulN 1 1073741824 1 (2 + n) = (0, 0, 3) := by
  unfold mulN
  rw [show vldB 1 1073741824 = true by decide +kernel, vld_in (by omega) (by omega) (by decide) (by decide), Int.gcd_one_left]
  simp only [decide_true, Bool.and_self, if_true]
  unfold mkN
  rw [if_neg (by omega), show (1 * 1 : Int) = 1 by decide]
  simp only [Int.gcd_one_left]
  rw [if_pos (by right; simp; omega)]
theorem long_d : mulN 1073741824 1 1 1073741824 = (1, 1, 0) := by decide +kernel
theorem long_e {n : Int} (h0 : 0 ≤ n) (h1 : n ≤ 1000) : divN n 1 0 1 = (0, 0, 2) := by
  unfold divN
  rw [vld_one (by omega) (by omega), vld_one (by decide) (by decide)]
  simp only [Bool.and_self, if_true]
  rw [show (1 * 0 : Int) = 0 by decide, mk_zero]

set_option maxHeartbeats 4000000 in
set_option maxRecDepth 100000 in
theorem walk (k : Int) (w : World) (he : Env w) (k0 : 0 ≤ k) (k1 : k ≤ 65535) :
    Calls Tryd.prog 8 #[.int .u16 k] w fun e w' => e = .returned (.bool true) ∧ Below w.heap.size w w' := by
  have n0 : 0 ≤ k % 1001 := by omega
  have n1 : k % 1001 ≤ 1000 := by omega
  have st := Sts.start he
  clear he
  go_enter Tryd.func8, Tryd.ntmps8
  go_wp2_with fail
  generalize k % 1001 = n at n0 n1 ⊢
  refine (add_any 1073741824 1 (-n) 1 _ (by decide) (by decide) (by decide) (by decide) (by omega) (by omega) (by decide) (by decide)).mono ?_; rintro e w1 ⟨rfl, hb⟩; rw [long_a n0 n1]
  simp only [ratV]
  replace st := (st.new 1073741824 1 23).keep hb
  clear hb
  obtain ⟨b4, hb4⟩ : ∃ b, b = w.heap.size := ⟨_, rfl⟩
  rw [← hb4] at st ⊢
  have HB4 := Lib.hid hb4
  clear hb4
  obtain ⟨l4, x4, y4⟩ := st.get b4 1073741824 1 (by simp)
  go_wp2_with fail
  refine (add_any 1073741824 1 (n + 1) 1 _ (by decide) (by decide) (by decide) (by decide) (by omega) (by omega) (by decide) (by decide)).mono ?_; rintro e w2 ⟨rfl, hb⟩; rw [long_b n0 n1]
  simp only [ratV]
  replace st := (st.new (1073741824 - n) 1 23).keep hb
  clear hb l4 x4 y4
  generalize w1.heap.size = b5 at st ⊢
  go_wp2_with fail
  refine (mul_any 1 1073741824 1 (2 + n) _ (by decide) (by decide) (by decide) (by decide) (by decide) (by decide) (by omega) (by omega)).mono ?_; rintro e w3 ⟨rfl, hb⟩; rw [long_c n0 n1]
  simp only [ratV]
  replace st := ((st.new 0 0 23).new 1 1073741824 23).keep hb
  simp only [World.size_alloc] at st
  clear hb
  generalize w2.heap.size + 1 = b9 at st ⊢
  generalize w2.heap.size = b7 at st ⊢
  obtain ⟨l4, x4, y4⟩ := st.get b4 1073741824 1 (by simp)
  obtain ⟨l9, x9, y9⟩ := st.get b9 1 1073741824 (by simp)
  go_wp2_with fail
  refine (mul_any 1073741824 1 1 1073741824 _ (by decide) (by decide) (by decide) (by decide) (by decide) (by decide) (by decide) (by decide)).mono ?_; rintro e w4 ⟨rfl, hb⟩; rw [long_d]
  simp only [ratV]
  replace st := (st.new 0 0 23).keep hb
  clear hb l4 x4 y4 l9 x9 y9
  generalize w3.heap.size = b10 at st ⊢
  go_wp2_with fail
  refine (div_any n 1 0 1 _ (by omega) (by omega) (by decide) (by decide) (by decide) (by decide) (by decide) (by decide)).mono ?_; rintro e w5 ⟨rfl, hb⟩; rw [long_e n0 n1]
  simp only [ratV]
  replace st := (st.new 1 1 23).keep hb
  clear hb
  generalize w4.heap.size = b12 at st ⊢
  obtain ⟨l5, x5, y5⟩ := st.get b5 (1073741824 - n) 1 (by simp)
  obtain ⟨l7, x7, y7⟩ := st.get b7 0 0 (by simp)
  obtain ⟨l10, x10, y10⟩ := st.get b10 0 0 (by simp)
  obtain ⟨l12, x12, y12⟩ := st.get b12 1 1 (by simp)
  go_wp2_with fail
  refine (awake_any _ ((st.new 0 0 23).new 0 0 23).e).mono ?_; rintro e w6 ⟨rfl, hb⟩
  replace st := ((st.new 0 0 23).new 0 0 23).keep hb
  clear hb l5 x5 y5 l7 x7 y7 l10 x10 y10 l12 x12 y12
  go_wp2
  go_ret
  exact ⟨rfl, st.b⟩
end Go.Proofs.YtcngbipgnpjohaaDoor.Long
