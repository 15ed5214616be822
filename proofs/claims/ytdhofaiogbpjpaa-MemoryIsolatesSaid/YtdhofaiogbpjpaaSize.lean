/- isSize, fits, overlap, Contains: plain numbers. -/
import Derived.Test.YtdhofaiogbpjpaaRg
namespace Go.Proofs.Ytdhofaiogbpjpaa
open Go.RowKit Go.Joins
namespace Me
theorem isSize_any (n : Int) (w : World) : Calls Try.prog 36 #[.int .i64 n] w fun e w' => e = .returned (.bool (szOk n)) ∧ w' = w := by
  unfold szOk
  by_cases h0 : 0 ≤ n
  · have hd : decide (0 ≤ n) = true := decide_eq_true h0
    rw [hd, Bool.true_and]
    go_enter Try.func36, Try.ntmps36
    go_wp2_with fail
    go_ret
    exact ⟨rfl, rfl⟩
  · have hd : decide (0 ≤ n) = false := decide_eq_false h0
    rw [hd, Bool.false_and]
    go_enter Try.func36, Try.ntmps36
    go_wp2_with fail
    go_ret
    exact ⟨rfl, rfl⟩
theorem lt_not {a b : Int} (h : ¬ a ≤ b) : b < a := by omega
set_option maxHeartbeats 2000000 in
theorem fits_any (r : Rg) (mem : Int) (w : World) (hm0 : 0 ≤ mem) (hm1 : mem ≤ 4096) (hb1 : r.b ≤ 9223372036854775807) : Calls Try.prog 37 #[rgV r, .int .i64 mem] w fun e w' => e = .returned (.bool (fitR mem r)) ∧ Below w.heap.size w w' := by
  obtain ⟨p, b, s⟩ := r
  simp only [rgV] at *
  unfold fitR
  simp only
  by_cases h0 : 0 ≤ b
  · have hd : decide (0 ≤ b) = true := decide_eq_true h0
    rw [hd, Bool.true_and]
    have hw : IntKind.i64.wrap (mem - b) = mem - b := IntWalk.i64_in _ (by omega)
    have ht : b.tmod 8 = b % 8 := Int.tmod_eq_emod_of_nonneg h0
    by_cases h1 : b % 8 = 0
    · have hd1 : (b % 8 == 0) = true := by simpa using h1
      rw [decide_eq_true h1, Bool.true_and]
      by_cases h2 : 0 ≤ s
      · have hd2 : decide (0 ≤ s) = true := decide_eq_true h2
        rw [hd2, Bool.true_and]
        go_enter Try.func37, Try.ntmps37
        go_wp2_with fail
        go_ret
        exact ⟨rfl, (Below.refl _ w).alloc (Nat.le_refl _) _⟩
      · have hd2 : decide (0 ≤ s) = false := decide_eq_false h2
        rw [hd2, Bool.false_and]
        go_enter Try.func37, Try.ntmps37
        go_wp2_with fail
        go_ret
        exact ⟨rfl, (Below.refl _ w).alloc (Nat.le_refl _) _⟩
    · have hd1 : (b % 8 == 0) = false := by simpa using h1
      rw [decide_eq_false h1, Bool.false_and]
      go_enter Try.func37, Try.ntmps37
      go_wp2_with fail
      go_ret
      exact ⟨rfl, (Below.refl _ w).alloc (Nat.le_refl _) _⟩
  · have hd : decide (0 ≤ b) = false := decide_eq_false h0
    rw [hd, Bool.false_and]
    go_enter Try.func37, Try.ntmps37
    go_wp2_with fail
    go_ret
    exact ⟨rfl, (Below.refl _ w).alloc (Nat.le_refl _) _⟩
end Me
end Go.Proofs.Ytdhofaiogbpjpaa
