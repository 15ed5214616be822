/- Pick. -/
import Derived.Test.YtdhofaiogbpjpaaNew
import Derived.Test.YtdhofaiogbpjpaaCls
namespace Go.Proofs.Ytdhofaiogbpjpaa
open Go.RowKit Go.Joins
namespace Me
theorem pick_any (x : Int) (n : Nat) (hn : 0 < n) (hn1 : n ≤ 1000000) (w : World) : Calls Try.prog 19 #[.int .i64 x, .int .i64 (n : Nat)] w fun e w' => e = .returned (.int .i64 (x % (n : Int)).toNat) ∧ w' = w := by
  have hd : decide ((n : Int) < 1) = false := by simp; omega
  have hne : ((n : Int) == 0) = false := by simp; omega
  have hne2 : ¬ (n : Int) = 0 := by omega
  have hpos : (0 : Int) < n := by omega
  have he := Int.emod_nonneg x hne2
  have he2 := Int.emod_lt_of_pos x hpos
  have hm := Int.tmod_eq_emod (a := x) (b := (n : Int))
  rw [Int.toNat_of_nonneg he]
  by_cases hx : 0 ≤ x
  · have ht : x.tmod n = x % n := Int.tmod_eq_emod_of_nonneg hx
    have hd2 : decide (x % (n : Int) < 0) = false := by simp; omega
    clear hm
    generalize x % (n : Int) = r at *
    go_enter Try.func19, Try.ntmps19
    go_wp2_with fail
    go_ret
    exact ⟨rfl, rfl⟩
  · by_cases h0r : x % (n : Int) = 0
    · have ht : x.tmod n = 0 := by
        rw [hm, h0r]
        rw [if_pos (.inr (Int.dvd_of_emod_eq_zero h0r))]
        rfl
      rw [h0r]
      clear hm
      go_enter Try.func19, Try.ntmps19
      go_wp2_with fail
      go_ret
      exact ⟨rfl, rfl⟩
    · have ht : x.tmod n = x % n - n := by
        rw [hm, if_neg (by
          rintro (h | h)
          · exact hx h
          · exact h0r (Int.emod_eq_zero_of_dvd h))]
        congr 1
      have hd2 : decide (x % (n : Int) - n < 0) = true := by simp; omega
      have hw : IntKind.i64.wrap (x % (n : Int) - n + n) = x % n := by
        rw [show x % (n : Int) - n + n = x % n by omega]
        exact IntWalk.i64_in _ (by omega)
      clear hm
      generalize x % (n : Int) = r at *
      have hw2 : r - (n : Int) + n = r := by omega
      go_enter Try.func19, Try.ntmps19
      go_wp2_with fail
      go_ret
      exact ⟨rfl, rfl⟩
end Me
end Go.Proofs.Ytdhofaiogbpjpaa
