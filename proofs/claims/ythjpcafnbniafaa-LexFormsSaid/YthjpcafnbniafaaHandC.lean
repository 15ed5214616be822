/- A range over a method value that yields: the iterator writes one block of the caller's between two rounds, and makes memory; the rounds own the rest, and may leave by return. -/
import Derived.Test.YthjpcafnbniafaaTok
import Derived.RangeFuncNested
import Derived.RangeFuncLeaves
import Derived.RangeFuncCalls
import Derived.Shelf.RegionOpen
import Derived.OwnWalkIn
import Derived.TacticsInMore
import Derived.LoopNIn
import Derived.LoopIn
namespace Go.Proofs.Ythjpcafnbniafaa
open Go.RowKit Go.Joins

/-- What a round must leave: the blocks that are the iterator's. -/
structure Kc (own : Nat → Prop) (W W' : World) : Prop where
  b : W.heap.size ≤ W'.heap.size
  own : ∀ k, own k → W'.heap[k]? = W.heap[k]?
theorem Kc.trans {own : Nat → Prop} {W1 W2 W3 : World} (h : Kc own W1 W2) (k : Kc own W2 W3) : Kc own W1 W3 := ⟨Nat.le_trans h.b k.b, fun i hi => (k.own i hi).trans (h.own i hi)⟩
theorem Kc.mono {o1 o2 : Nat → Prop} {W1 W2 : World} (h : Kc o1 W1 W2) (ho : ∀ k, o2 k → o1 k) : Kc o2 W1 W2 := ⟨h.b, fun i hi => h.own i (ho i hi)⟩
theorem Kc.put {own : Nat → Prop} (W : World) (l : Nat) (o : Obj) (h : ¬ own l) : Kc own W (W.putObj l o) := ⟨by simp, fun k hk => World.putObj_heap_other (by rintro rfl; exact h hk)⟩

/-- The iterator hands on the list L, or stops when a round says so; c is its block. -/
def HandsC {α : Type} (F : Fence) (n : Nat) (P : Program) (g : Nat) (rb lb : Array Value) (enc : α → Array Value) (c : Nat) (Iv : World → Prop) (own : Nat → Prop) (L : List α) (w0 : World) : Prop :=
  ∀ (l : Nat) (J : List α → World → Prop) (D : World → Prop) (W : World), Below w0.heap.size w0 W →
    (∀ s A C, J s A → It c A C → Iv C → J s C) → (∀ A C, D A → It c A C → D C) →
    (∀ pre x W1, J pre W1 → pre ++ [x] <+: L → YieldAt F (n - 1) P l (enc x) W1 fun e W' => Kc own W1 W' ∧ ((e = .returned (.bool true) ∧ J (pre ++ [x]) W') ∨ (e = .returned (.bool false) ∧ D W'))) →
    J [] W → CallsIn F n P g (rb ++ #[.func (.yield l) #[] #[]] ++ lb) W fun e W' => (∃ v, e = .returned v) ∧ (J L W' ∨ D W')

/-- The blocks that a round of such a loop must leave: the iterator's, and the loop's record. -/
def ownR (own : Nat → Prop) (B k : Nat) : Prop := own k ∨ k = B ∨ k = B + 1
/-- How a round of such a loop is left. -/
def roundEndC {α : Type} (B : Nat) (own : Nat → Prop) (I : List α → World → Prop) (D : World → Prop) (xs : List α) (W : World) : Exit → Act → World → Prop
  | .normal, _, W' => Kc (ownR own B) W W' ∧ I xs W'
  | .ret, _, W' => Kc (ownR own B) W W' ∧ D W'
  | _, _, _ => False

theorem wpIn_handsC {F : Fence} {n : Nat} {P : Program} {α : Type} {g : Operand} {ps : Array Tmp} {assign body : Code} {Q : Exit → Act → World → Prop} {a : Act} {w : World}
    (hro : F.round = none) (h1 : 1 ≤ n) {gf : Nat} {rb lb : Array Value} (hg : a.eval g = .func (.func gf) rb lb) (hFg : F.fn gf) (eg : ∀ args w, (callFunc gf args).run P w = .ok (.enter gf args) w)
    {enc : α → Array Value} {c : Nat} {Iv : World → Prop} {own : Nat → Prop} {L : List α} {w0 : World} (hseq : HandsC F (n - 1) P gf rb lb enc c Iv own L w0) (hIv : ∀ W1, Below w.heap.size w W1 → Iv W1) (hb0 : Below w0.heap.size w0 w) (hc : c < w.heap.size) (hown : ∀ k, own k → k < w.heap.size) (hps : ∀ x, (enc x).size = ps.size)
    (I : List α → World → Prop) (D : World → Prop) (hI : ∀ s A C, I s A → It c A C → Iv C → I s C) (hD : ∀ A C, D A → It c A C → D C)
    (hIp : ∀ s (A : World) (o : Obj), I s A → I s (A.putObj (w.heap.size + 1) o)) (hDp : ∀ (A : World) (o : Obj), D A → D (A.putObj (w.heap.size + 1) o))
    (h0 : I [] w) (Ax : α → Act → World → Prop) (hAx : ∀ x a' (A : World) o, Ax x a' A → Ax x a' (A.putObj (w.heap.size + 1) o))
    (hassign : ∀ (l : Nat) (pre : List α) (x : α) (W : World) (K : Act → World → Prop), I pre W → w.heap.size + 2 ≤ W.heap.size → pre ++ [x] <+: L → (∀ a' W', Kc (ownR own w.heap.size) W W' → I pre W' → Ax x a' W' → K a' W') →
      assign.wpIn (F.inRound l) (n - 1 - 1) P (Exit.then K (fun _ _ _ => False)) { tmps := (ps.zip (enc x)).foldl (fun t (p, v) => t.setIfInBounds p v) a.tmps, defers := [] } W)
    (hbody : ∀ (l : Nat) (pre : List α) (x : α) (a' : Act) (W : World), w.heap.size + 2 ≤ W.heap.size → I pre W → Ax x a' W → pre ++ [x] <+: L → body.wpIn (F.inRound l) (n - 1 - 1) P (roundEndC w.heap.size own I D (pre ++ [x]) W) a' W)
    (hdone : ∀ (Dk : Nat) (W : World), Dk = w.heap.size → I L W → W.heap[Dk]? = some (.deferred (some [])) → Q .normal { a with defers := { target := .collected Dk, args := #[] } :: a.defers } W)
    (hstop : ∀ (Dk : Nat) (W : World), Dk = w.heap.size → D W → W.heap[Dk]? = some (.deferred (some [])) → Code.ret.wpIn F n P Q { a with defers := { target := .collected Dk, args := #[] } :: a.defers } W) :
    (Code.rangeFunc g ps assign body).wpIn F n P Q a w := by
  refine wpIn_rangeFunc fun fn hfn => ?_
  rw [hro]
  obtain ⟨rec, hrec⟩ : ∃ rec : LoopState → Option Code → Loop, rec = fun st pe => { state := st, pending := pe, fn, tmps := a.tmps, params := ps, assign, body, defers := w.heap.size } := ⟨_, rfl⟩
  obtain ⟨W1, hW1⟩ : ∃ W1, (w.alloc (.deferred (some []))).alloc (.loop (rec .ready none)) = W1 := ⟨_, rfl⟩
  have hgrow : Below w.heap.size w W1 := by rw [← hW1]; exact ((Below.refl _ w).alloc (Nat.le_refl _) _).alloc (by simp) _
  have hsz : W1.heap.size = w.heap.size + 2 := by rw [← hW1]; simp
  have hl1 : W1.heap[w.heap.size + 1]? = some (.loop (rec .ready none)) := by
    rw [← hW1]
    have := heap_alloc_new (w.alloc (.deferred (some []))) (.loop (rec .ready none))
    rwa [World.size_alloc] at this
  have hd1 : W1.heap[w.heap.size]? = some (.deferred (some [])) := by
    rw [← hW1]
    exact (heap_alloc_old _ _ (by simp)).trans (heap_alloc_new w _)
  have hno : ¬ own (w.heap.size + 1) := fun h => by have := hown _ h; omega
  refine ⟨w.heap.size + 1, [{ target := .collected w.heap.size, args := #[] }], W1, { target := .fn (.func gf) lb, args := rb ++ #[.func (.yield (w.heap.size + 1)) #[] #[]] }, W1, gf, rb ++ #[.func (.yield (w.heap.size + 1)) #[] #[]] ++ lb, W1,
    ?_, by simp only [resolve, hg]; simp [go_sem], fun f' hf' => by simp [Target.leads] at hf'; subst hf'; exact hFg, by simp [invoke, go_sem, eg], fun _ => h1, ?_⟩
  · rw [← hW1, hrec]; exact run_enterLoop_outer _ _ _ _ _
  have stab : ∀ (st : LoopState) (pe : Option Code) (A C : World), A.heap[w.heap.size + 1]? = some (.loop (rec st pe)) → A.heap[w.heap.size]? = some (.deferred (some [])) → It c A C →
      C.heap[w.heap.size + 1]? = some (.loop (rec st pe)) ∧ C.heap[w.heap.size]? = some (.deferred (some [])) := fun st pe A C hl hd hk =>
    ⟨(hk.far _ (Array.getElem?_eq_some_iff.1 hl).1 (by omega)).trans hl, (hk.far _ (Array.getElem?_eq_some_iff.1 hd).1 (by omega)).trans hd⟩
  refine (hseq (w.heap.size + 1)
    (fun pre W => I pre W ∧ W.heap[w.heap.size + 1]? = some (.loop (rec .ready none)) ∧ W.heap[w.heap.size]? = some (.deferred (some [])))
    (fun W => D W ∧ W.heap[w.heap.size + 1]? = some (.loop (rec .done (some .ret))) ∧ W.heap[w.heap.size]? = some (.deferred (some [])))
    W1 (hb0.trans (hgrow.mono hb0.size))
    (fun s A C ⟨hi, hl, hd⟩ hk hv => ⟨hI s A C hi hk hv, stab _ _ A C hl hd hk⟩)
    (fun A C ⟨hi, hl, hd⟩ hk => ⟨hD A C hi hk, stab _ _ A C hl hd hk⟩)
    ?_ ⟨hI [] w W1 h0 (It.of_below hgrow (by omega)) (hIv _ hgrow), hl1, hd1⟩).mono ?_
  · rintro pre x W ⟨hi, hl, hd⟩ hpre
    have hV : w.heap.size + 1 < W.heap.size := (Array.getElem?_eq_some_iff.1 hl).1
    have hy := run_yield (P := P) (args := enc x) hl (by rw [hrec]; exact hps x)
    rw [hrec] at hy
    refine ⟨fn, _, assign, body, hy, roundIn_of_wpIn hfn (hassign _ pre x W _ hi (by omega) hpre ?_)⟩
    clear hy
    intro a' V hkf hi' hax
    have hl' := (hkf.own _ (.inr (.inr rfl))).trans hl
    have hd' := (hkf.own _ (.inr (.inl rfl))).trans hd
    have hVs : w.heap.size + 1 < V.heap.size := (Array.getElem?_eq_some_iff.1 hl').1
    refine ⟨_, run_beginRound hl' (by rw [hrec]), ?_⟩
    have hl2 : (V.putObj (w.heap.size + 1) (.loop { rec .ready none with state := .busy })).heap[w.heap.size + 1]? = some (.loop { rec .ready none with state := .busy }) := World.putObj_heap_same hVs
    have hd2 : (V.putObj (w.heap.size + 1) (.loop { rec .ready none with state := .busy })).heap[w.heap.size]? = some (.deferred (some [])) := (World.putObj_heap_other (by omega)).trans hd'
    refine wpIn_mono (hbody _ pre x a' _ (by simp; omega) (hIp _ _ _ hi') (hAx x a' V _ hax) hpre) ?_
    have fin : ∀ (jump : Option Code) (W3 : World), Kc (ownR own w.heap.size) (V.putObj (w.heap.size + 1) (.loop { rec .ready none with state := .busy })) W3 →
        (Instr.endRound (w.heap.size + 1) jump).run P W3 = .ok (.bool jump.isNone) (W3.putObj (w.heap.size + 1) (.loop (rec (if jump.isNone then .ready else .done) jump))) ∧
        Kc own W (W3.putObj (w.heap.size + 1) (.loop (rec (if jump.isNone then .ready else .done) jump))) ∧
        (W3.putObj (w.heap.size + 1) (.loop (rec (if jump.isNone then .ready else .done) jump))).heap[w.heap.size + 1]? = some (.loop (rec (if jump.isNone then .ready else .done) jump)) ∧
        (W3.putObj (w.heap.size + 1) (.loop (rec (if jump.isNone then .ready else .done) jump))).heap[w.heap.size]? = some (.deferred (some [])) := fun jump W3 hk3 => by
      have hl3 := (hk3.own _ (.inr (.inr rfl))).trans hl2
      have hd3 := (hk3.own _ (.inr (.inl rfl))).trans hd2
      have hr := run_endRound (P := P) jump hl3
      have hlt := (Array.getElem?_eq_some_iff.1 hl3).1
      rw [hrec] at hr ⊢
      exact ⟨hr, (hkf.mono fun _ h => .inl h).trans ((Kc.put _ _ _ hno).trans ((hk3.mono fun _ h => .inl h).trans (Kc.put _ _ _ hno))), World.putObj_heap_same hlt, (World.putObj_heap_other (by omega)).trans hd3⟩
    rintro e a3 V3 hp
    cases e with
    | normal =>
      obtain ⟨hk3, hi3⟩ := hp
      obtain ⟨hr, hgk, hl4, hd4⟩ := fin none V3 hk3
      exact ⟨_, _, hr, hgk, .inl ⟨rfl, hIp _ _ _ hi3, hl4, hd4⟩⟩
    | ret =>
      obtain ⟨hk3, hi3⟩ := hp
      obtain ⟨hr, hgk, hl4, hd4⟩ := fin (some .ret) V3 hk3
      exact ⟨_, _, hr, hgk, .inr ⟨rfl, hDp _ _ hi3, hl4, hd4⟩⟩
    | exit id => exact hp.elim
    | goto t => exact hp.elim
    | panic ch => exact hp.elim
    | outgrown => exact hp.elim
  · rintro e V ⟨⟨v, rfl⟩, (⟨hi, hl, hd⟩ | ⟨hi, hl, hd⟩)⟩
    · exact ⟨none, _, by have := run_endLoop (P := P) hl (by rw [hrec]; simp); rw [hrec] at this; exact this, hdone _ _ rfl (hIp _ _ _ hi) ((World.putObj_heap_other (by omega)).trans hd)⟩
    · exact ⟨some .ret, _, by have := run_endLoop (P := P) hl (by rw [hrec]; simp); rw [hrec] at this; exact this, hstop _ _ rfl (hDp _ _ hi) ((World.putObj_heap_other (by omega)).trans hd)⟩
end Go.Proofs.Ythjpcafnbniafaa
