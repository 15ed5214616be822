/- The contract of the reference's Sign. -/
import Derived.Test.YtaoipbndmfjmhaaRfI
import Derived.Test.YtaoipbndmfjmhaaRfJ
import Derived.Test.YtaoipbndmfjmhaaRfK
namespace Go.Proofs.Ytaoipbndmfjmhaa
open Go.RowKit Go.Joins
theorem rsign_any (seed d : BitVec 64) (h q : Nat) (hh : h ≤ 6) (hq : q < 2 ^ h) (w : World) :
    Calls Try.prog 22 #[U64 seed, .int .i64 h, .int .i64 q, U64 d] w fun e w' => ∃ G c, e = .returned (.agg (sgA q (chainV seed d q) (.slice G h c))) ∧ isQ G (pathV seed h q) w' ∧ Below w.heap.size w w' :=
  RSg.step.run ⟨RSg.round.run ⟨RSg.even⟩ ⟨RSg.odd⟩ ⟨trivial⟩ ⟨trivial⟩⟩ ⟨RSg.fin⟩ ⟨trivial⟩ ⟨trivial⟩ seed d h q hh hq w
end Go.Proofs.Ytaoipbndmfjmhaa
