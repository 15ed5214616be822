/- The contract of the kit's Pick for six. -/
import Derived.Test.YtbpncbomcdpogaaBlankM
import Derived.Test.YtbpncbomcdpogaaAlike
namespace Go.Proofs.Ytbpncbomcdpogaa
open Go.RowKit Go.Joins

set_option maxRecDepth 100000 in
set_option maxHeartbeats 1000000 in
theorem pick_any (x : Int) (w : World) :
    Calls Try.prog 21 #[.int .i64 x, .int .i64 6] w fun e w' => ∃ r : Nat, r < 6 ∧ e = .returned (.int .i64 r) ∧ w' = w := by
  have h1 : -6 < x.tmod 6 := Int.lt_tmod_of_pos x (by decide)
  have h2 : x.tmod 6 < 6 := Int.tmod_lt_of_pos x (by decide)
  obtain ⟨y, hy⟩ : ∃ y, x.tmod 6 = y := ⟨_, rfl⟩
  rw [hy] at h1 h2
  have hw1 : wrap64 y = y := IntWalk.wrap64_in _ ⟨by omega, by omega⟩
  have hw2 : IntKind.i64.wrap y = y := IntWalk.i64_in _ (by omega)
  by_cases hn : y < 0
  · have hd : decide (y < 0) = true := by simp; omega
    obtain ⟨r, hr⟩ : ∃ r : Nat, y + 6 = r := ⟨(y + 6).toNat, by omega⟩
    have hw3 : wrap64 (r : Int) = r := IntWalk.wrap64_in _ ⟨by omega, by omega⟩
    have hw4 : IntKind.i64.wrap (r : Int) = r := IntWalk.i64_in _ (by omega)
    have hr6 : r < 6 := by omega
    go_enter Try.func21, Try.ntmps21
    go_wp2_with fail
    go_ret
    exact ⟨r, hr6, rfl, rfl⟩
  · have hd : decide (y < 0) = false := by simp; omega
    obtain ⟨r, rfl⟩ := Int.eq_ofNat_of_zero_le (by omega : 0 ≤ y)
    have hr6 : r < 6 := by omega
    go_enter Try.func21, Try.ntmps21
    go_wp2_with fail
    go_ret
    exact ⟨r, hr6, rfl, rfl⟩
end Go.Proofs.Ytbpncbomcdpogaa
