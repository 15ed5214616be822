/-
  No cell of these rows narrows 'for every input' (looked for: loops, veiled, ifaces, maps, wideKeys, modest, calm, conditions, laid).
  DERIVED. THE GIVEN ROWS OF THIS SEAT. 4 by the template 'for every input the law returns true; each argument reads behind the call as it read before'; 0 by the template 'total and deterministic' (their statements: YtbncfknjgldcbaaGreatTotals.lean).
  GIVEN WITH THE SEED: the statements are not yours to turn. If you find one false, say at which input.
  Laid BY PROGRAM, IN A SANDBOX (cutbox-rows.mjs): the forced cells as the released guide's own fill.sh prints them over the translation 4888f660c991af7f… (all of the seat's roots in one cut). By AI agents, Wed Nov 11 2026. No macro, syntax, notation, axiom, sorry.
-/
import Derived.Test.YtbncfknjgldcbaaGreatChecked
import GoSem.Claim
import GoSem.ClaimJoined
import GoSem.ClaimMapViews
import Derived.JoinedTies
import Derived.KernelRfl
namespace Go.Proofs.YtbncfknjgldcbaaGreat
/- THE CELL 'sum', in the pinned program and in every row, IS THE sha256 OF THE DUMP (.gsa) THAT YtbncfknjgldcbaaGreatProg.lean LOADS. Nothing in Lean hashes anything: it is a label: what it is worth is what the hold of that sum in a sandbox is worth. -/
noncomputable def Tryz.pinned : Pinned := { name := "ytbncfknjgldcbaagreat", sum := "4888f660c991af7f8e450d861f31ec3b0b6302d8750b971f87f75391563a0417", checked := Tryz.checked }
namespace Rows
def none {H : Type} : Left H := { results := [], args := [] }

/-- 'nacellelaw02.CurveTells': WHATEVER THE INPUT: true; the input reads as it did. -/
def curveTellsSpec : ChangeSpec := { name := "curveTells", fn := fun _ => fun
  | [d1, d2, d3] => { results := [.lit (.bool true)], args := [d1, d2, d3] }
  | _ => none }
def curveTellsRow : OpenClaim := { program := "ytbncfknjgldcbaagreat", sum := "4888f660c991af7f8e450d861f31ec3b0b6302d8750b971f87f75391563a0417", func := "nacelle/nacellelaw02.CurveTells", spec := "curveTells", unfollowed := true, recurses := true, apart := false }
def CurveTellsSaid : Prop := curveTellsRow.holds Tryz.pinned (OpenSpec.ofChange curveTellsSpec)

/-- ITS FALSE NEIGHBOUR: 'it returns false'. Refute it at one input. -/
def curveTellsWrong : ChangeSpec := { name := "curveTells", fn := fun _ => fun
  | [d1, d2, d3] => { results := [.lit (.bool false)], args := [d1, d2, d3] }
  | _ => none }
def CurveTellsWrongFalsely : Prop := curveTellsRow.holds Tryz.pinned (OpenSpec.ofChange curveTellsWrong)

/-- 'nacellelaw03.CalculusTells': WHATEVER THE INPUT: true; the input reads as it did. -/
def calculusTellsSpec : ChangeSpec := { name := "calculusTells", fn := fun _ => fun
  | [d1, d2, d3] => { results := [.lit (.bool true)], args := [d1, d2, d3] }
  | _ => none }
def calculusTellsRow : OpenClaim := { program := "ytbncfknjgldcbaagreat", sum := "4888f660c991af7f8e450d861f31ec3b0b6302d8750b971f87f75391563a0417", func := "nacelle/nacellelaw03.CalculusTells", spec := "calculusTells", unfollowed := true, recurses := true, apart := false }
def CalculusTellsSaid : Prop := calculusTellsRow.holds Tryz.pinned (OpenSpec.ofChange calculusTellsSpec)

/-- ITS FALSE NEIGHBOUR: 'it returns false'. Refute it at one input. -/
def calculusTellsWrong : ChangeSpec := { name := "calculusTells", fn := fun _ => fun
  | [d1, d2, d3] => { results := [.lit (.bool false)], args := [d1, d2, d3] }
  | _ => none }
def CalculusTellsWrongFalsely : Prop := calculusTellsRow.holds Tryz.pinned (OpenSpec.ofChange calculusTellsWrong)

/-- 'nacellelaw03.CalculusServes': WHATEVER THE INPUT: true; the input reads as it did. -/
def calculusServesSpec : ChangeSpec := { name := "calculusServes", fn := fun _ => fun
  | [d1, d2, d3, d4] => { results := [.lit (.bool true)], args := [d1, d2, d3, d4] }
  | _ => none }
def calculusServesRow : OpenClaim := { program := "ytbncfknjgldcbaagreat", sum := "4888f660c991af7f8e450d861f31ec3b0b6302d8750b971f87f75391563a0417", func := "nacelle/nacellelaw03.CalculusServes", spec := "calculusServes", unfollowed := true, recurses := true, apart := false }
def CalculusServesSaid : Prop := calculusServesRow.holds Tryz.pinned (OpenSpec.ofChange calculusServesSpec)

/-- ITS FALSE NEIGHBOUR: 'it returns false'. Refute it at one input. -/
def calculusServesWrong : ChangeSpec := { name := "calculusServes", fn := fun _ => fun
  | [d1, d2, d3, d4] => { results := [.lit (.bool false)], args := [d1, d2, d3, d4] }
  | _ => none }
def CalculusServesWrongFalsely : Prop := calculusServesRow.holds Tryz.pinned (OpenSpec.ofChange calculusServesWrong)

/-- 'nacellelaw03.CalculusDelays': WHATEVER THE INPUT: true; the input reads as it did. -/
def calculusDelaysSpec : ChangeSpec := { name := "calculusDelays", fn := fun _ => fun
  | [d1, d2, d3, d4, d5, d6, d7, d8] => { results := [.lit (.bool true)], args := [d1, d2, d3, d4, d5, d6, d7, d8] }
  | _ => none }
def calculusDelaysRow : OpenClaim := { program := "ytbncfknjgldcbaagreat", sum := "4888f660c991af7f8e450d861f31ec3b0b6302d8750b971f87f75391563a0417", func := "nacelle/nacellelaw03.CalculusDelays", spec := "calculusDelays", unfollowed := true, recurses := true, apart := false }
def CalculusDelaysSaid : Prop := calculusDelaysRow.holds Tryz.pinned (OpenSpec.ofChange calculusDelaysSpec)

/-- ITS FALSE NEIGHBOUR: 'it returns false'. Refute it at one input. -/
def calculusDelaysWrong : ChangeSpec := { name := "calculusDelays", fn := fun _ => fun
  | [d1, d2, d3, d4, d5, d6, d7, d8] => { results := [.lit (.bool false)], args := [d1, d2, d3, d4, d5, d6, d7, d8] }
  | _ => none }
def CalculusDelaysWrongFalsely : Prop := calculusDelaysRow.holds Tryz.pinned (OpenSpec.ofChange calculusDelaysWrong)

/- THE SECOND FORM. 'bulk': how many values and letters a reading holds, each counted each time it is reached (what is shared counts as often as it is met; a slice's spare places count too). A statement '..UptoSaid' is the law's where the arguments, and the package variables that the reading takes, are together of bulk at most 1048576: NARROWER than '..Said'. Prove '..Said' where nothing that the law and all that it calls make is longer than what came in: it says more and counts as full. Else prove '..UptoSaid'. A law counts once. -/
mutual
def uptoBulk {H : Type} : DataW H → Nat
  | .lit (.string bytes) => bytes.length + 1
  | .lit _ => 1
  | .nil => 1
  | .ptr d => uptoBulk d + 1
  | .slice elems spare => uptoBulkAll elems + uptoBulkAll spare + 1
  | .agg parts => uptoBulkAll parts + 1
  | .iface _ d => uptoBulk d + 1
  | .map entries => uptoBulkEntries entries + 1
  | .held _ => 1
def uptoBulkAll {H : Type} : List (DataW H) → Nat
  | [] => 0
  | d :: r => uptoBulk d + uptoBulkAll r
def uptoBulkEntries {H : Type} : List (Lit × DataW H) → Nat
  | [] => 0
  | x :: r => uptoBulkEntry x + uptoBulkEntries r
def uptoBulkEntry {H : Type} : Lit × DataW H → Nat
  | (.string bytes, d) => bytes.length + uptoBulk d + 1
  | (_, d) => uptoBulk d + 1
 end
def uptoSmall : (H : Type) → List (DataW H) → Bool := fun _ ds => decide (uptoBulkAll ds ≤ 1048576)
def OpenSpec.upto (s : _root_.Go.ChangeSpec) : _root_.Go.OpenSpec := { _root_.Go.OpenSpec.ofChange s with cond := some uptoSmall }

/-- 'nacellelaw02.CurveTells', WHERE WHAT IT READS IS OF BULK AT MOST 1048576: true; the input reads as it did. -/
def curveTellsUptoRow : OpenClaim := { program := "ytbncfknjgldcbaagreat", sum := "4888f660c991af7f8e450d861f31ec3b0b6302d8750b971f87f75391563a0417", func := "nacelle/nacellelaw02.CurveTells", spec := "curveTells", unfollowed := true, recurses := true, apart := false, narrowed := true }
def CurveTellsUptoSaid : Prop := curveTellsUptoRow.holds Tryz.pinned (OpenSpec.upto curveTellsSpec)

/-- 'nacellelaw03.CalculusTells', WHERE WHAT IT READS IS OF BULK AT MOST 1048576: true; the input reads as it did. -/
def calculusTellsUptoRow : OpenClaim := { program := "ytbncfknjgldcbaagreat", sum := "4888f660c991af7f8e450d861f31ec3b0b6302d8750b971f87f75391563a0417", func := "nacelle/nacellelaw03.CalculusTells", spec := "calculusTells", unfollowed := true, recurses := true, apart := false, narrowed := true }
def CalculusTellsUptoSaid : Prop := calculusTellsUptoRow.holds Tryz.pinned (OpenSpec.upto calculusTellsSpec)

/-- 'nacellelaw03.CalculusServes', WHERE WHAT IT READS IS OF BULK AT MOST 1048576: true; the input reads as it did. -/
def calculusServesUptoRow : OpenClaim := { program := "ytbncfknjgldcbaagreat", sum := "4888f660c991af7f8e450d861f31ec3b0b6302d8750b971f87f75391563a0417", func := "nacelle/nacellelaw03.CalculusServes", spec := "calculusServes", unfollowed := true, recurses := true, apart := false, narrowed := true }
def CalculusServesUptoSaid : Prop := calculusServesUptoRow.holds Tryz.pinned (OpenSpec.upto calculusServesSpec)

/-- 'nacellelaw03.CalculusDelays', WHERE WHAT IT READS IS OF BULK AT MOST 1048576: true; the input reads as it did. -/
def calculusDelaysUptoRow : OpenClaim := { program := "ytbncfknjgldcbaagreat", sum := "4888f660c991af7f8e450d861f31ec3b0b6302d8750b971f87f75391563a0417", func := "nacelle/nacellelaw03.CalculusDelays", spec := "calculusDelays", unfollowed := true, recurses := true, apart := false, narrowed := true }
def CalculusDelaysUptoSaid : Prop := calculusDelaysUptoRow.holds Tryz.pinned (OpenSpec.upto calculusDelaysSpec)

end Rows
end Go.Proofs.YtbncfknjgldcbaaGreat
