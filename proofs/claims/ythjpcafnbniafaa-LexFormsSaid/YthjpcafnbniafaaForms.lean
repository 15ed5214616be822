/- LexForms: its pieces put together. -/
import Derived.Test.YthjpcafnbniafaaFormW
import Derived.Test.YthjpcafnbniafaaFormN
import Derived.Test.YthjpcafnbniafaaFormV0
import Derived.Test.YthjpcafnbniafaaFormV1
import Derived.Test.YthjpcafnbniafaaFormV2
import Derived.Test.YthjpcafnbniafaaFormV3
namespace Go.Proofs.Ythjpcafnbniafaa
open Go.RowKit Go.Joins
namespace Fo
theorem walk (S : ByteArray) (w : World) (hS : S.size ≤ maxLen) :
    Calls Try.prog 9 #[.string S] w fun e w' => e = .returned (.bool true) ∧ Below w.heap.size w w' :=
  step.run ⟨first.run ⟨word⟩ ⟨num⟩ ⟨trivial⟩ ⟨trivial⟩⟩ ⟨rest.run ⟨way0⟩ ⟨way1⟩ ⟨way2⟩ ⟨way3⟩⟩ ⟨trivial⟩ ⟨trivial⟩ S w hS
end Fo
end Go.Proofs.Ythjpcafnbniafaa
