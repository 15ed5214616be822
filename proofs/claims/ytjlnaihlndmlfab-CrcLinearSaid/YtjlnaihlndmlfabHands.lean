/- A range over a function that writes variables of its own between two rounds: what it hands on is a list; the loop is left at its end alone. -/
import Derived.Test.YtjlnaihlndmlfabChk
import Derived.RangeFuncNested
import Derived.RangeFuncLeaves
import Derived.RangeFuncCalls
import Derived.Shelf.RegionOpen
import Derived.OwnWalkIn
import Derived.TacticsInMore
import Derived.LoopNIn
import Derived.LoopIn
namespace Go.Proofs.Ytjlnaihlndmlfab
open Go.RowKit Go.Joins

/-- What an iterator that began at a heap of size B may do of its own: no record of a loop turns, and nothing below B. -/
structure Ins (B : Nat) (W W' : World) : Prop where
  b : Below B W W'
  o : KeepsOthers W W'
theorem Ins.refl (B : Nat) (W : World) : Ins B W W := ⟨Below.refl _ _, KeepsOthers.refl _⟩
theorem Ins.trans {B : Nat} {W1 W2 W3 : World} (h : Ins B W1 W2) (k : Ins B W2 W3) : Ins B W1 W3 := ⟨h.b.trans k.b, h.o.trans k.o⟩
theorem Ins.below {B : Nat} {W W' : World} (hb : Below W.heap.size W W') (h : B ≤ W.heap.size) : Ins B W W' :=
  ⟨hb.mono h, ⟨hb.size, fun k _ hk _ => (hb.block k (Array.getElem?_eq_some_iff.1 hk).1).trans hk⟩⟩
theorem Ins.setRow {B g : Nat} {W : World} {t : TypeId} {cs : Array Value} (h : BoxN W g t cs) (hB : B ≤ g) (ds : Array Value) : Ins B W (W.setRow g ds) :=
  ⟨below_setRow (Below.refl _ _) hB ds, ⟨by simp, fun k o hk ho => by
    by_cases e : k = g
    · subst e
      rw [show W.heap[k]? = _ from h] at hk
      cases hk; cases ho
    · rw [setRow_other W g k ds e]; exact hk⟩⟩
theorem Ins.setCell {B : Nat} {W : World} {a : Addr} (hB : B ≤ a.block) (v : Value) : Ins B W (W.setCell a v) := ⟨(Below.refl _ _).setCell hB v, KeepsOthers.setCell _ _ _⟩
theorem Ins.alloc {B : Nat} (W : World) (o : Obj) (hB : B ≤ W.heap.size) : Ins B W (W.alloc o) := Ins.below ((Below.refl _ _).alloc (Nat.le_refl _) _) hB

/-- The iterator hands on the list L. -/
def Hands {α : Type} (F : Fence) (n : Nat) (P : Program) (g : Nat) (lb : Array Value) (enc : α → Array Value) (Kp : World → World → Prop) (L : List α) (w0 : World) : Prop :=
  ∀ (l : Nat) (J : List α → World → Prop) (W : World), Below w0.heap.size w0 W → (∀ s A C, J s A → Ins W.heap.size A C → J s C) →
    (∀ pre x W1, J pre W1 → pre ++ [x] <+: L → YieldAt F (n - 1) P l (enc x) W1 fun e W' => e = .returned (.bool true) ∧ J (pre ++ [x]) W' ∧ Kp W1 W') →
    J [] W → CallsIn F n P g (#[.func (.yield l) #[] #[]] ++ lb) W fun e W' => (∃ v, e = .returned v) ∧ J L W'

/-- How a round of such a loop is left. -/
def roundEnd {α : Type} (B : Nat) (Kp : World → World → Prop) (I : List α → World → Prop) (xs : List α) (W : World) : Exit → Act → World → Prop
  | .normal, _, W' => KeepsFrom B W W' ∧ Kp W W' ∧ I xs W'
  | _, _, _ => False

theorem wpIn_hands {F : Fence} {n : Nat} {P : Program} {α : Type} {g : Operand} {ps : Array Tmp} {assign body : Code} {Q : Exit → Act → World → Prop} {a : Act} {w : World}
    (hro : F.round = none) (h1 : 1 ≤ n) {gf : Nat} {lb : Array Value} (hg : a.eval g = .func (.func gf) #[] lb) (hFg : F.fn gf) (eg : ∀ args w, (callFunc gf args).run P w = .ok (.enter gf args) w)
    {enc : α → Array Value} {Kp : World → World → Prop} {L : List α} {w0 : World} (hseq : Hands F (n - 1) P gf lb enc Kp L w0)
    (hKt : ∀ {A B C : World}, Kp A B → Kp B C → Kp A C) (hKb : ∀ (W : World) (l : Nat) (o o' : Obj), w.heap.size ≤ l → W.heap[l]? = some o → o.isCells = false → Kp W (W.putObj l o')) (hb0 : Below w0.heap.size w0 w) (hps : ∀ x, (enc x).size = ps.size)
    (I : List α → World → Prop) (hI : ∀ s A C, I s A → Below w.heap.size A C → I s C) (h0 : I [] w) (Ax : α → Act → World → Prop)
    (hAx : ∀ x a' (A : World) l r r', Ax x a' A → w.heap.size ≤ l → A.heap[l]? = some (.loop r) → Ax x a' (A.putObj l (.loop r')))
    (hassign : ∀ (l : Nat) (pre : List α) (x : α) (W : World) (K : Act → World → Prop), I pre W → w.heap.size ≤ W.heap.size → (∀ a' W', KeepsFrom w.heap.size W W' → Kp W W' → I pre W' → Ax x a' W' → K a' W') →
      assign.wpIn (F.inRound l) (n - 1 - 1) P (Exit.then K (fun _ _ _ => False)) { tmps := (ps.zip (enc x)).foldl (fun t (p, v) => t.setIfInBounds p v) a.tmps, defers := [] } W)
    (hbody : ∀ (l : Nat) (pre : List α) (x : α) (a' : Act) (W : World), w.heap.size ≤ W.heap.size → I pre W → Ax x a' W → pre ++ [x] <+: L → body.wpIn (F.inRound l) (n - 1 - 1) P (roundEnd w.heap.size Kp I (pre ++ [x]) W) a' W)
    (hdone : ∀ (D : Nat) (W : World), w.heap.size ≤ D → I L W → W.heap[D]? = some (.deferred (some [])) → Q .normal { a with defers := { target := .collected D, args := #[] } :: a.defers } W) :
    (Code.rangeFunc g ps assign body).wpIn F n P Q a w := by
  refine wpIn_rangeFunc fun fn hfn => ?_
  rw [hro]
  -- the loop's record, by its state
  let rec0 : LoopState → Loop := fun st => { state := st, pending := none, fn, tmps := a.tmps, params := ps, assign, body, defers := w.heap.size }
  have hIp : ∀ s (A : World) (l : Nat) (o : Obj), I s A → w.heap.size ≤ l → I s (A.putObj l o) := fun s A l o h hl =>
    hI s A _ h ⟨rfl, rfl, rfl, by simp, fun k hk => World.putObj_heap_other (by omega)⟩
  obtain ⟨W1, hW1⟩ : ∃ W1, (w.alloc (.deferred (some []))).alloc (.loop (rec0 .ready)) = W1 := ⟨_, rfl⟩
  have hgrow : Below w.heap.size w W1 := by rw [← hW1]; exact ((Below.refl _ w).alloc (Nat.le_refl _) _).alloc (by simp) _
  have hsz : W1.heap.size = w.heap.size + 2 := by rw [← hW1]; simp
  have hl1 : W1.heap[w.heap.size + 1]? = some (.loop (rec0 .ready)) := by
    rw [← hW1]
    have := heap_alloc_new (w.alloc (.deferred (some []))) (.loop (rec0 .ready))
    rwa [World.size_alloc] at this
  have hd1 : W1.heap[w.heap.size]? = some (.deferred (some [])) := by
    rw [← hW1]
    exact (heap_alloc_old _ _ (by simp)).trans (heap_alloc_new w _)
  refine ⟨w.heap.size + 1, [{ target := .collected w.heap.size, args := #[] }], W1, { target := .fn (.func gf) lb, args := #[.func (.yield (w.heap.size + 1)) #[] #[]] }, W1, gf, #[.func (.yield (w.heap.size + 1)) #[] #[]] ++ lb, W1,
    by rw [← hW1]; exact run_enterLoop_outer _ _ _ _ _, by simp only [resolve, hg]; simp [go_sem], fun f' hf' => by simp [Target.leads] at hf'; subst hf'; exact hFg, by simp [invoke, go_sem, eg], fun _ => h1, ?_⟩
  refine (hseq (w.heap.size + 1) (fun pre W => I pre W ∧ W.heap[w.heap.size + 1]? = some (.loop (rec0 .ready)) ∧ W.heap[w.heap.size]? = some (.deferred (some [])) ∧ w.heap.size ≤ W.heap.size) W1 (hb0.trans (hgrow.mono hb0.size))
    (fun s A C ⟨hi, hl, hd, hz⟩ hk => ⟨hI s A C hi (hk.b.mono (by omega)), hk.o.same _ _ hl rfl, hk.o.same _ _ hd rfl, Nat.le_trans hz hk.b.size⟩) ?_ ⟨hI _ _ _ h0 hgrow, hl1, hd1, by omega⟩).mono ?_
  · rintro pre x W ⟨hi, hl, hd, hz⟩ hpre
    refine ⟨fn, _, assign, body, run_yield (P := P) (args := enc x) hl (hps x), roundIn_of_wpIn hfn (hassign _ pre x W _ hi hz ?_)⟩
    intro a' V hkf hkp hi' hax
    have hl' := hkf.same _ _ (Nat.le_succ _) hl rfl
    have hd' := hkf.same _ _ (Nat.le_refl _) hd rfl
    have hV : w.heap.size + 1 < V.heap.size := (Array.getElem?_eq_some_iff.1 hl').1
    refine ⟨_, run_beginRound hl' rfl, ?_⟩
    have hl2 : (V.putObj (w.heap.size + 1) (.loop (rec0 .busy))).heap[w.heap.size + 1]? = some (.loop (rec0 .busy)) := World.putObj_heap_same hV
    have hd2 : (V.putObj (w.heap.size + 1) (.loop (rec0 .busy))).heap[w.heap.size]? = some (.deferred (some [])) := (World.putObj_heap_other (by omega)).trans hd'
    refine wpIn_mono (hbody _ pre x a' _ (by simp; omega) (hIp _ _ _ _ hi' (Nat.le_succ _)) (hAx x a' V _ _ _ hax (Nat.le_succ _) hl') hpre) ?_
    rintro e a3 V3 hp
    cases e with
    | normal =>
      obtain ⟨hk3, hkp3, hi3⟩ := hp
      have hl3 := hk3.same _ _ (Nat.le_succ _) hl2 rfl
      have hd3 := hk3.same _ _ (Nat.le_refl _) hd2 rfl
      have hV3 := (Array.getElem?_eq_some_iff.1 hl3).1
      refine ⟨_, _, run_endRound (P := P) none hl3, rfl, ⟨hIp _ _ _ _ hi3 (Nat.le_succ _), World.putObj_heap_same hV3, (World.putObj_heap_other (by omega)).trans hd3, by simp; omega⟩, ?_⟩
      exact hKt hkp (hKt (hKt (hKb _ _ _ _ (Nat.le_succ _) hl' rfl) hkp3) (hKb _ _ _ _ (Nat.le_succ _) hl3 rfl))
    | ret => exact hp.elim
    | exit id => exact hp.elim
    | goto t => exact hp.elim
    | panic ch => exact hp.elim
    | outgrown => exact hp.elim
  · rintro e V ⟨⟨v, rfl⟩, hi, hl, hd, hz⟩
    exact ⟨none, _, run_endLoop (P := P) hl (by simp [rec0]), hdone _ _ (Nat.le_refl _) (hIp _ _ _ _ hi (Nat.le_succ _)) ((World.putObj_heap_other (by omega)).trans hd)⟩
end Go.Proofs.Ytjlnaihlndmlfab
