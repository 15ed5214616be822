/- SignTells: its pieces put together. -/
import Derived.Test.YtaoipbndmfjmhaaTlB
import Derived.Test.YtaoipbndmfjmhaaTlD
import Derived.Test.YtaoipbndmfjmhaaTlE
import Derived.Test.YtaoipbndmfjmhaaFrame
namespace Go.Proofs.Ytaoipbndmfjmhaa
open Go.RowKit Go.Joins
namespace Tll
theorem walk (seed h q d i k : Int) (w : World) (hs0 : 0 ≤ seed) (hs1 : seed ≤ 18446744073709551615) (_ : -9223372036854775808 ≤ h) (_ : h ≤ 9223372036854775807) (_ : -9223372036854775808 ≤ q) (_ : q ≤ 9223372036854775807) (hd0 : 0 ≤ d) (hd1 : d ≤ 18446744073709551615) (_ : -9223372036854775808 ≤ i) (_ : i ≤ 9223372036854775807) (_ : -9223372036854775808 ≤ k) (_ : k ≤ 9223372036854775807) :
    Calls Try.prog 3 #[.int .u64 seed, .int .i64 h, .int .i64 q, .int .u64 d, .int .i64 i, .int .i64 k] w fun r w' => r = .returned (.bool true) ∧ Below w.heap.size w w' := by
  obtain ⟨seed, rfl⟩ := int_bv (n := 64) hs0 (by omega)
  obtain ⟨d, rfl⟩ := int_bv (n := 64) hd0 (by omega)
  exact step.run ⟨good.run ⟨key⟩ ⟨nokey⟩ ⟨trivial⟩ ⟨trivial⟩⟩ ⟨bad⟩ ⟨trivial⟩ ⟨trivial⟩ seed d h q i k w
end Tll
end Go.Proofs.Ytaoipbndmfjmhaa
