/- The reference's Good and Valid at every curve. -/
import Derived.Test.YtaanhddgmiggfaaGreatRef
import Derived.Test.YtaanhddgmiggfaaGreatBasic
namespace Go.Proofs.YtaanhddgmiggfaaGreat.Ref
open Go.RowKit Go.Joins

set_option maxHeartbeats 400000 in
theorem good_any (n d : Int) (w : World) (n0 : -9223372036854775808 ≤ n) (n1 : n ≤ 9223372036854775807) (d0 : -9223372036854775808 ≤ d) (d1 : d ≤ 9223372036854775807) :
    Calls Tryz.prog 59 #[.agg #[.int .i64 n, .int .i64 d]] w fun e w' => e = .returned (.bool (amtB n d)) ∧ Below w.heap.size w w' := by
  unfold amtB
  obtain ⟨v, Hv⟩ : ∃ v, Hid (vldB n d = v) := ⟨_, rfl⟩
  have HV : Hid (∀ W : World, _) := fun W => valid_any n d W n0 n1 d0 d1
  rw [Hv.out] at HV ⊢
  cases v
  · rw [Bool.and_false]
    go_enter Tryz.func59, Tryz.ntmps59
    go_wp2_with fail
    refine (HV.out _).mono ?_; rintro e w1 ⟨rfl, hb1⟩
    have hx := (Has.new w n d 25).keep hb1
    have x0 := hx.c0
    have x1 := hx.c1
    have hB := Lib.hid (((Below.refl w.heap.size w).alloc (Nat.le_refl _) (.cells #[.int .i64 n, .int .i64 d] 25)).trans (hb1.mono (by simp)))
    clear hx hb1
    go_wp2
    go_ret
    exact ⟨rfl, hB.out⟩
  · rw [Bool.and_true]
    go_enter Tryz.func59, Tryz.ntmps59
    go_wp2_with fail
    refine (HV.out _).mono ?_; rintro e w1 ⟨rfl, hb1⟩
    have hx := (Has.new w n d 25).keep hb1
    have x0 := hx.c0
    have x1 := hx.c1
    have hB := Lib.hid (((Below.refl w.heap.size w).alloc (Nat.le_refl _) (.cells #[.int .i64 n, .int .i64 d] 25)).trans (hb1.mono (by simp)))
    clear hx hb1
    go_wp2
    go_ret
    exact ⟨rfl, hB.out⟩
end Go.Proofs.YtaanhddgmiggfaaGreat.Ref
