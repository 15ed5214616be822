/- Contracts of the two instances of rat.gcd, of rat.magnitude and of the reference's gcd and size. -/
import Derived.Test.YtaanhddgmiggfaaGreatProg
import Derived.WalkKit
import Derived.WalkSpells
import Derived.WalkLawsBesides
import Derived.LoopTactic
import Derived.RegionTactic
import Derived.Deep.QuietTactic
import Derived.BigQuiet
import Derived.Handy
import Derived.Lib.Hide
import Derived.WalkSmall
namespace Go.Proofs.YtaanhddgmiggfaaGreat
open Go.RowKit

theorem bcell {W w1 : World} (hb : Below W.heap.size W w1) : (∀ b o, b < W.heap.size → w1.cell? ⟨b, o, none⟩ = W.cell? ⟨b, o, none⟩) ∧ (∀ b o, b < W.heap.size → w1.frozen? ⟨b, o, none⟩ = W.frozen? ⟨b, o, none⟩) :=
  ⟨fun b o h => hb.cell (p := ⟨b, o, none⟩) h, fun b o h => hb.frozen (p := ⟨b, o, none⟩) h⟩
theorem bnext {W0 X Y : World} (hB : Below W0.heap.size W0 X) (hb : Below X.heap.size X Y) : Below W0.heap.size W0 Y := hB.trans (hb.mono hB.size)
theorem drewN_add (w : World) (a b : Nat) : (w.drewN a).drewN b = w.drewN (a + b) := by simp [World.drewN, Nat.add_assoc]
theorem ret_bool {a b : Bool} (h : a = b) : Ending.returned (.bool a) = .returned (.bool b) := by rw [h]
theorem ret_int {k : IntKind} {a b : Int} (h : a = b) : Ending.returned (.int k a) = .returned (.int k b) := by rw [h]
theorem gcd_step (a b : Int) (hb : 0 < b) (ha : 0 ≤ a) : Int.gcd b (a % b) = Int.gcd a b := by
  obtain ⟨m, rfl⟩ := Int.eq_ofNat_of_zero_le ha
  obtain ⟨n, rfl⟩ := Int.eq_ofNat_of_zero_le (Int.le_of_lt hb)
  show Nat.gcd n (m % n) = Nat.gcd m n
  rw [Nat.gcd_comm m n, Nat.gcd_rec n m, Nat.gcd_comm]

set_option maxHeartbeats 400000 in
theorem gcdU (a b : Int) (w : World) (a0 : 0 ≤ a) (b0 : 0 ≤ b) (a1 : a ≤ 18446744073709551615) (b1 : b ≤ 18446744073709551615) :
    Calls Tryz.prog 97 #[.int .u64 a, .int .u64 b] w fun e w' => e = .returned (.int .u64 (Int.gcd a b : Nat)) ∧ ∃ k, w' = w.drewN k := by
  go_enter Tryz.func97, Tryz.ntmps97
  go_wp2
  go_loopw [0, 1] (fun s t wr => ∃ x y : Int, 0 ≤ x ∧ 0 ≤ y ∧ x ≤ 18446744073709551615 ∧ y ≤ 18446744073709551615 ∧ s = .int .u64 x ∧ t = .int .u64 y ∧ Hid (Int.gcd x y = Int.gcd a b) ∧ ∃ k, wr = w.drewN k) (fun _ t _ => (intOf t).toNat)
  case atStart => exact ⟨a, b, a0, b0, a1, b1, rfl, rfl, rfl, 0, rfl⟩
  case round =>
    obtain ⟨x, y, x0, y0, x1, y1, rfl, rfl, hg, j, rfl⟩ := hrel
    by_cases hy : y = 0
    · subst hy
      go_wp2
      go_ret
      have := hg.out
      exact ⟨by rw [← this, Int.gcd_zero_right, Int.natAbs_of_nonneg x0]; rfl, j, rfl⟩
    · have hyp : 0 < y := by omega
      have hyb : (y == 0) = false := by simpa using hy
      have hyn : (y != 0) = true := by simpa using hy
      go_wp2
      have hs := gcd_step x y hyp x0
      have Hs : Hid (Int.gcd y (x % y) = Int.gcd a b) := hs.trans hg.out
      have m0 : 0 ≤ x % y := Int.emod_nonneg _ hy
      have m1 : x % y < y := Int.emod_lt_of_pos _ hyp
      clear hs
      go_quiet (fail)
      rename_i nq
      go_wp2
      go_roundw
      case rel => exact ⟨y, x % y, y0, m0, y1, by omega, rfl, by first | rfl | simp, Hs, j + nq, drewN_add _ _ _⟩
      case measure => simp [intOf]; omega

set_option maxHeartbeats 400000 in
theorem gcdI (a b : Int) (w : World) (a0 : 0 ≤ a) (b0 : 0 ≤ b) (a1 : a ≤ 9223372036854775807) (b1 : b ≤ 9223372036854775807) :
    Calls Tryz.prog 122 #[.int .i64 a, .int .i64 b] w fun e w' => e = .returned (.int .i64 (Int.gcd a b : Nat)) ∧ ∃ k, w' = w.drewN k := by
  go_enter Tryz.func122, Tryz.ntmps122
  go_wp2
  go_loopw [0, 1] (fun s t wr => ∃ x y : Int, 0 ≤ x ∧ 0 ≤ y ∧ x ≤ 9223372036854775807 ∧ y ≤ 9223372036854775807 ∧ s = .int .i64 x ∧ t = .int .i64 y ∧ Hid (Int.gcd x y = Int.gcd a b) ∧ ∃ k, wr = w.drewN k) (fun _ t _ => (intOf t).toNat)
  case atStart => exact ⟨a, b, a0, b0, a1, b1, rfl, rfl, rfl, 0, rfl⟩
  case round =>
    obtain ⟨x, y, x0, y0, x1, y1, rfl, rfl, hg, j, rfl⟩ := hrel
    by_cases hy : y = 0
    · subst hy
      go_wp2
      go_ret
      have := hg.out
      exact ⟨by rw [← this, Int.gcd_zero_right, Int.natAbs_of_nonneg x0]; rfl, j, rfl⟩
    · have hyp : 0 < y := by omega
      have hyb : (y == 0) = false := by simpa using hy
      have hyn : (y != 0) = true := by simpa using hy
      go_wp2
      have hs := gcd_step x y hyp x0
      have Hs : Hid (Int.gcd y (x % y) = Int.gcd a b) := hs.trans hg.out
      have m0 : 0 ≤ x % y := Int.emod_nonneg _ hy
      have m1 : x % y < y := Int.emod_lt_of_pos _ hyp
      clear hs
      go_quiet (fail)
      rename_i nq
      go_wp2
      go_roundw
      case rel => exact ⟨y, x % y, y0, m0, y1, by omega, rfl, by first | rfl | simp, Hs, j + nq, drewN_add _ _ _⟩
      case measure => simp [intOf]; omega

/-- The absolute value as an unsigned number, of every int. -/
theorem mag (n : Int) (w : World) (n0 : -9223372036854775808 ≤ n) (n1 : n ≤ 9223372036854775807) :
    Calls Tryz.prog 96 #[.int .i64 n] w fun e w' => e = .returned (.int .u64 (n.natAbs : Nat)) ∧ w = w' := by
  by_cases h : n < 0
  · go_enter Tryz.func96, Tryz.ntmps96
    go_wp2
    go_ret
    exact ⟨by rw [show IntKind.u64.wrap (-IntKind.u64.wrap n) = (n.natAbs : Nat) by go_arith]; rfl, rfl⟩
  · go_enter Tryz.func96, Tryz.ntmps96
    go_wp2
    go_ret
    exact ⟨by rw [show (n.natAbs : Int) = n by omega]; rfl, rfl⟩

/-- When a number is valid. -/
def vldB (n d : Int) : Bool := decide (1 ≤ d ∧ d ≤ 1073741824 ∧ -1073741824 ≤ n ∧ n ≤ 1073741824 ∧ Int.gcd n d = 1)
theorem vld_no {n d : Int} (h : ¬ (1 ≤ d ∧ d ≤ 1073741824 ∧ -1073741824 ≤ n ∧ n ≤ 1073741824)) : vldB n d = false := by
  unfold vldB; rw [decide_eq_false_iff_not]; exact fun ⟨a, b, c, e, _⟩ => h ⟨a, b, c, e⟩
theorem vld_bd {n d : Int} (h : vldB n d = true) : 1 ≤ d ∧ d ≤ 1073741824 ∧ -1073741824 ≤ n ∧ n ≤ 1073741824 ∧ Int.gcd n d = 1 := of_decide_eq_true h
theorem vld_in {n d : Int} (a : 1 ≤ d) (b : d ≤ 1073741824) (c : -1073741824 ≤ n) (e : n ≤ 1073741824) : vldB n d = decide (Int.gcd n d = 1) := by
  unfold vldB; rw [Bool.eq_iff_iff]; simp [a, b, c, e]

set_option maxHeartbeats 400000 in
theorem valid_any (n d : Int) (w : World) (n0 : -9223372036854775808 ≤ n) (n1 : n ≤ 9223372036854775807) (d0 : -9223372036854775808 ≤ d) (d1 : d ≤ 9223372036854775807) :
    Calls Tryz.prog 87 #[.agg #[.int .i64 n, .int .i64 d]] w fun e w' => e = .returned (.bool (vldB n d)) ∧ Below w.heap.size w w' := by
  by_cases h1 : d < 1
  · rw [vld_no (by omega)]
    go_enter Tryz.func87, Tryz.ntmps87
    go_wp2
    go_ret
    exact ⟨rfl, by go_grown⟩
  by_cases h2 : d > 1073741824
  · rw [vld_no (by omega)]
    go_enter Tryz.func87, Tryz.ntmps87
    go_wp2
    go_ret
    exact ⟨rfl, by go_grown⟩
  by_cases h3 : n < -1073741824
  · rw [vld_no (by omega)]
    go_enter Tryz.func87, Tryz.ntmps87
    go_wp2
    go_ret
    exact ⟨rfl, by go_grown⟩
  by_cases h4 : n > 1073741824
  · rw [vld_no (by omega)]
    go_enter Tryz.func87, Tryz.ntmps87
    go_wp2
    go_ret
    exact ⟨rfl, by go_grown⟩
  rw [vld_in (by omega) (by omega) (by omega) (by omega)]
  go_enter Tryz.func87, Tryz.ntmps87
  go_wp2_with fail
  all_goals
    refine (gcdI _ _ _ (by omega) (by omega) (by omega) (by omega)).mono ?_
    rintro e w1 ⟨rfl, j, rfl⟩
    go_wp2
    go_ret
    refine ⟨?_, below_drewN ((Below.refl _ _).alloc (Nat.le_refl _) _) _⟩
    exact ret_bool (by rw [Bool.eq_iff_iff]; simp; omega)
end Go.Proofs.YtaanhddgmiggfaaGreat
