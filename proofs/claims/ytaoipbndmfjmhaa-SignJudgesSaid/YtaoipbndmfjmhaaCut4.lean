/- A walk cut into declarations: what the pieces have to say is found by the walk up to them. -/
import Derived.Test.YtaoipbndmfjmhaaBase
namespace Go.Proofs.Ytaoipbndmfjmhaa
structure Lock4 (p : Prop) : Prop where
  out : p
/-- A proof of Q from four pieces. -/
structure Cut4 (Q : Prop) where
  p1 : Prop
  p2 : Prop
  p3 : Prop
  p4 : Prop
  run : Lock4 p1 → Lock4 p2 → Lock4 p3 → Lock4 p4 → Q
end Go.Proofs.Ytaoipbndmfjmhaa
