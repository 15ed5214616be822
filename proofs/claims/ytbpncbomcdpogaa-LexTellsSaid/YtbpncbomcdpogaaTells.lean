/- LexTells: the program agrees with the reference on every source. -/
import Derived.Test.YtbpncbomcdpogaaLexes
namespace Go.Proofs.Ytbpncbomcdpogaa
open Go.RowKit Go.Joins

namespace Te
set_option maxRecDepth 100000 in
set_option maxHeartbeats 4000000 in
theorem walk (S : ByteArray) (w : World) (hS : S.size ≤ maxLen) :
    Calls Try.prog 3 #[.string S] w fun e w' => e = .returned (.bool true) ∧ Below w.heap.size w w' := by
  obtain ⟨l, rfl⟩ := str_bstr S
  have HW : Hid (∀ W : World, _) := fun W => Aw.walk W
  have HL : Hid (∀ W : World, _) := fun W => lexes_any l W
  have hbs := bstr_size l
  rw [hbs] at hS
  unfold maxLen at hS
  have hB := Below.refl w.heap.size w
  go_enter Try.func3, Try.ntmps3
  by_cases hlen : 4000 < l.length
  · have hd : decide ((4000 : Int) < l.length) = true := by simp; omega
    go_wp2_with fail
    (with_reducible refine (HW.out _).mono ?_); rintro e w1 ⟨rfl, hb1⟩
    replace hB := hB.trans (hb1.mono hB.size)
    go_wp2_with fail
    go_ret
    exact ⟨rfl, hB⟩
  · have hd : decide ((4000 : Int) < l.length) = false := by simp; omega
    go_wp2_with fail
    (with_reducible refine (HL.out _).mono ?_); rintro e w1 ⟨rfl, hb1⟩
    replace hB := hB.trans (hb1.mono hB.size)
    go_wp2_with fail
    (with_reducible refine (HW.out _).mono ?_); rintro e w2 ⟨rfl, hb2⟩
    replace hB := hB.trans (hb2.mono hB.size)
    go_wp2_with fail
    go_ret
    exact ⟨rfl, hB⟩
end Te
end Go.Proofs.Ytbpncbomcdpogaa
