/- What the texts of digest share: blocks known whole, words and bytes as the program has them. -/
import Derived.Test.YtaoipbndmfjmhaaReg
import Derived.WalkKit
import Derived.WalkSpells
import Derived.WalkLawsBesides
import Derived.LoopTactic
import Derived.RegionTactic
import Derived.Deep.QuietTactic
import Derived.BigQuiet
import Derived.Handy
import Derived.Lib.Hide
import Derived.WalkSmall
import Derived.Carry
import Derived.Lib.SmallJoins
import Derived.Outline
import Derived.Below
import Derived.IntWalk
import Derived.Laws.Rows
import Derived.Laws.CopyOwn
import Derived.Laws.EntriesVeiled
import Derived.Laws.BitsAllLaws
import Derived.Great.BuildSlice
import Derived.RangeFuncRecord
import Derived.Deep.RegionWith
import Derived.Deep.RegionLaw
import Derived.Deep.AppendLies
import Derived.Deep.DeepCutAuto
import Derived.Deep.RegionHeld3
import Derived.BigGuardPart
namespace Go.Proofs.Ytaoipbndmfjmhaa
open Go.RowKit Go.Joins

/-- A word as the program has it. -/
abbrev U64 (x : BitVec 64) : Value := .int .u64 (x.toNat : Int)
abbrev U8 (x : BitVec 8) : Value := .int .u8 (x.toNat : Int)

/-- Block b holds just these cells. -/
def BoxN (W : World) (B : Nat) (t : TypeId) (cs : Array Value) : Prop := W.heap[B]? = some (.cells cs t (0, 0))
section
variable {W W' : World} {B : Nat} {t : TypeId} {cs : Array Value}
theorem BoxN.lt (h : BoxN W B t cs) : B < W.heap.size := (Array.getElem?_eq_some_iff.1 h).1
theorem BoxN.cell (h : BoxN W B t cs) (i : Nat) : W.cell? ⟨B, i, none⟩ = cs[i]? := by
  unfold BoxN at h; simp [World.cell?, h]
theorem BoxN.frozen (h : BoxN W B t cs) (i : Nat) : W.frozen? ⟨B, i, none⟩ = false := by
  unfold BoxN at h; simp [World.frozen?, h]
theorem BoxN.new (W : World) (t : TypeId) (cs : Array Value) : BoxN (W.alloc (.cells cs t)) W.heap.size t cs := heap_alloc_new W _
theorem BoxN.alloc (h : BoxN W B t cs) (o : Obj) : BoxN (W.alloc o) B t cs := (heap_alloc_old W o h.lt).trans h
theorem BoxN.drew (h : BoxN W B t cs) : BoxN W.drew B t cs := h
theorem BoxN.drewN (h : BoxN W B t cs) (n : Nat) : BoxN (W.drewN n) B t cs := ((below_drewN (Below.refl W.heap.size W) n).block B h.lt).trans h
theorem BoxN.below {n₀ : Nat} (h : BoxN W B t cs) (hb : Below n₀ W W') (hB : B < n₀) : BoxN W' B t cs := (hb.block B hB).trans h
theorem BoxN.keep (h : BoxN W B t cs) (hb : Below W.heap.size W W') : BoxN W' B t cs := h.below hb h.lt
theorem BoxN.set1 (i : Nat) (u : Value) (h : BoxN W B t cs) : BoxN (W.setCell ⟨B, i, none⟩ u) B t (cs.setIfInBounds i u) := by
  unfold BoxN at h ⊢
  simp [World.setCell, Array.getElem?_modify, h]
theorem BoxN.far (h : BoxN W B t cs) {p : Addr} (hp : B ≠ p.block) (u : Value) : BoxN (W.setCell p u) B t cs := (Below.heap_setCell W p u B hp).trans h
theorem BoxN.setRow (h : BoxN W B t cs) (ds : Array Value) : BoxN (W.setRow B ds) B t ds := setRow_heap W B cs ds t (0, 0) h
theorem BoxN.farRow (h : BoxN W B t cs) {g : Nat} (hg : B ≠ g) (ds : Array Value) : BoxN (W.setRow g ds) B t cs := (setRow_other W g B ds hg).trans h
end
end Go.Proofs.Ytaoipbndmfjmhaa
