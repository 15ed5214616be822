/- A walk cut into declarations: what the pieces have to say is found by the walk up to them. -/
import Derived.Test.YthjpcafnbniafaaBase
namespace Go.Proofs.Ythjpcafnbniafaa
structure Lock (p : Prop) : Prop where
  out : p
/-- A proof of Q from four pieces. -/
structure Cut (Q : Prop) where
  p1 : Prop
  p2 : Prop
  p3 : Prop
  p4 : Prop
  run : Lock p1 → Lock p2 → Lock p3 → Lock p4 → Q
end Go.Proofs.Ythjpcafnbniafaa
