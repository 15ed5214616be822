/- A region that draws its order and whose calls make memory, walked once: the worlds of a class that no callee leaves. -/
import Derived.Test.YtdhofaiogbpjpaaProg
import Derived.WalkKit
import Derived.Below
import Derived.Deep.QuietTactic
import Derived.BigQuiet
namespace Go.Proofs.Ytdhofaiogbpjpaa
open Go.RowKit

/-- A world of the class (a type of its own, so that the walk's simp does not take it apart). -/
structure Wd (S : World → Prop) where
  val : World
  ok : S val

/-- The lexical walk over the class 'S', its worlds as a type of their own. -/
theorem wp_region_cls {P : Program} {id : Nat} {Q : Exit → Act → World → Prop} {a : Act} {w : World} {l : List Oper} (S : World → Prop) (hm : P.follows .mixedOrders = true) (hB : Region.lexB .any l.toArray = true) (hC : S w.drew)
    (h : wpQuiet P l.toArray (fun w' => ∃ s : Wd S, w' = s.val) (fun a' => ∀ w', (∃ s : Wd S, w' = s.val) → Q .normal a' w') l a) : (Code.region id l.toArray true).wp P Q a w :=
  wp_region_quiet (C := fun w' => ∃ s : Wd S, w' = s.val) hm hB ⟨⟨_, hC⟩, rfl⟩ (by simpa using h)

/-- At a call: the callee leaves what was there alone, and the class is closed under that. -/
theorem Calls.cls {P : Program} {f : FuncId} {args : Array Value} {v : Value} {S : World → Prop} (hS : ∀ W W' : World, S W → Below W.heap.size W W' → S W') {s : Wd S}
    (h : Calls P f args s.val fun e w' => e = .returned v ∧ Below s.val.heap.size s.val w') : Calls P f args s.val fun e w'' => e = .returned v ∧ ∃ s' : Wd S, w'' = s'.val :=
  h.mono fun _ _ ⟨he, hb⟩ => ⟨he, ⟨⟨_, hS _ _ s.ok hb⟩, rfl⟩⟩

/-- The worlds that have only grown from W0. -/
def Gr (W0 : World) : World → Prop := fun W => Below W0.heap.size W0 W
theorem Gr.start (W0 : World) : Gr W0 W0.drew := (Below.refl _ _).drew
theorem Gr.close {W0 : World} : ∀ W W' : World, Gr W0 W → Below W.heap.size W W' → Gr W0 W' := fun _ _ h k => Below.trans h (k.mono (Below.size h))
theorem Gr.cell {W0 : World} {a : Addr} {v : Value} (h : W0.cell? a = some v) (hb : a.block < W0.heap.size) : ∀ s : Wd (Gr W0), s.val.cell? a = some v := fun s => (Below.cell s.ok hb).trans h
end Go.Proofs.Ytdhofaiogbpjpaa
