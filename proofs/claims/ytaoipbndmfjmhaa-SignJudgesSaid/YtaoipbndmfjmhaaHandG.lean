/- A range over a function whose iterator makes memory and writes boxes of its own between two rounds; the rounds may own what they make, and may leave by return. -/
import Derived.Test.YtaoipbndmfjmhaaBytes
import Derived.RangeFuncNested
import Derived.RangeFuncLeaves
import Derived.RangeFuncCalls
import Derived.Shelf.RegionOpen
import Derived.OwnWalkIn
import Derived.TacticsInMore
import Derived.LoopNIn
import Derived.LoopIn
namespace Go.Proofs.Ytaoipbndmfjmhaa
open Go.RowKit Go.Joins

/-- What an iterator that began at a heap of size B may do between two rounds: only its own blocks, from B up to S, turn, and new ones come. -/
structure Ch (B S : Nat) (A C : World) : Prop where
  b : Below B A C
  same : ∀ k, k < A.heap.size → S ≤ k → C.heap[k]? = A.heap[k]?
theorem Ch.refl (B S : Nat) (A : World) : Ch B S A A := ⟨Below.refl _ _, fun _ _ _ => rfl⟩
theorem Ch.trans {B S : Nat} {A C E : World} (h : Ch B S A C) (k : Ch B S C E) : Ch B S A E :=
  ⟨h.b.trans k.b, fun i hi hS => (k.same i (Nat.lt_of_lt_of_le hi h.b.size) hS).trans (h.same i hi hS)⟩
theorem Ch.mono {B B' S S' : Nat} {A C : World} (h : Ch B' S' A C) (hB : B ≤ B') (hS : S' ≤ S) : Ch B S A C :=
  ⟨h.b.mono hB, fun i hi hk => h.same i hi (Nat.le_trans hS hk)⟩
theorem Ch.below {B S : Nat} {A C : World} (h : Below A.heap.size A C) (hB : B ≤ A.heap.size) : Ch B S A C :=
  ⟨h.mono hB, fun i hi _ => h.block i hi⟩
theorem Ch.put {B S : Nat} (A : World) (l : Nat) (o : Obj) (hB : B ≤ l) (hS : l < S) : Ch B S A (A.putObj l o) :=
  ⟨⟨rfl, rfl, rfl, by simp, fun k hk => World.putObj_heap_other (by omega)⟩, fun i _ hi => World.putObj_heap_other (by omega)⟩
theorem Ch.set {B S : Nat} (A : World) (a : Addr) (v : Value) (hB : B ≤ a.block) (hS : a.block < S) : Ch B S A (A.setCell a v) :=
  ⟨(Below.refl _ _).setCell hB v, fun i _ hi => Below.heap_setCell A a v i (by omega)⟩
/-- What a round must leave: the iterator's blocks, and what the iterator made since the last round ended (at A). -/
structure Gk (B S : Nat) (A W W' : World) : Prop where
  b : W.heap.size ≤ W'.heap.size
  own : ∀ k, B ≤ k → k < S → W'.heap[k]? = W.heap[k]?
  mine : ∀ k, A.heap.size ≤ k → k < W.heap.size → W'.heap[k]? = W.heap[k]?
theorem Gk.trans {B S : Nat} {A W1 W2 W3 : World} (h : Gk B S A W1 W2) (k : Gk B S A W2 W3) : Gk B S A W1 W3 :=
  ⟨Nat.le_trans h.b k.b, fun i h1 h2 => (k.own i h1 h2).trans (h.own i h1 h2), fun i h1 h2 => (k.mine i h1 (Nat.lt_of_lt_of_le h2 h.b)).trans (h.mine i h1 h2)⟩

/-- The iterator hands on the list L, or stops when a round says so. -/
def HandsG {α : Type} (F : Fence) (n : Nat) (P : Program) (g : Nat) (lb : Array Value) (Enc : α → Nat → World → World → Array Value → Prop) (L : List α) (w0 : World) : Prop :=
  ∀ (l : Nat) (J : Nat → List α → World → Prop) (D : Nat → World → Prop) (W : World), Below w0.heap.size w0 W →
    (∀ S s A C, W.heap.size ≤ S → J S s A → Ch W.heap.size S A C → J S s C) → (∀ S A C, W.heap.size ≤ S → D S A → Ch W.heap.size S A C → D S C) →
    (∀ S pre x A W1 v, W.heap.size ≤ S → S ≤ W1.heap.size → A.heap.size ≤ W1.heap.size → J S pre A → Ch W.heap.size S A W1 → pre ++ [x] <+: L → Enc x S A W1 v →
      YieldAt F (n - 1) P l v W1 fun e W' => Gk W.heap.size S A W1 W' ∧ ((e = .returned (.bool true) ∧ J S (pre ++ [x]) W') ∨ (e = .returned (.bool false) ∧ D S W'))) →
    (∀ S, W.heap.size ≤ S → J S [] W) → CallsIn F n P g (#[.func (.yield l) #[] #[]] ++ lb) W fun e W' => (∃ v, e = .returned v) ∧ ∃ S, W.heap.size ≤ S ∧ (J S L W' ∨ D S W')

/-- How a round of such a loop is left. -/
def roundEndG {α : Type} (B S : Nat) (A W : World) (J : Nat → List α → World → Prop) (D : Nat → World → Prop) (xs : List α) : Exit → Act → World → Prop
  | .normal, _, W' => Gk B S A W W' ∧ J S xs W'
  | .ret, _, W' => Gk B S A W W' ∧ D S W'
  | _, _, _ => False

theorem wpIn_handsG {F : Fence} {n : Nat} {P : Program} {α : Type} {g : Operand} {ps : Array Tmp} {assign body : Code} {Q : Exit → Act → World → Prop} {a : Act} {w : World}
    (hro : F.round = none) (h1 : 1 ≤ n) {gf : Nat} {lb : Array Value} (hg : a.eval g = .func (.func gf) #[] lb) (hFg : F.fn gf) (eg : ∀ args w, (callFunc gf args).run P w = .ok (.enter gf args) w)
    {Enc : α → Nat → World → World → Array Value → Prop} {L : List α} {w0 : World} (hseq : HandsG F (n - 1) P gf lb Enc L w0) (hb0 : Below w0.heap.size w0 w) (hps : ∀ x S A W v, Enc x S A W v → v.size = ps.size)
    (hEnc : ∀ x S A W v l r r', Enc x S A W v → l < A.heap.size → W.heap[l]? = some (.loop r) → Enc x S A (W.putObj l (.loop r')) v)
    (J : Nat → List α → World → Prop) (D : Nat → World → Prop) (hJ : ∀ S s A C, w.heap.size + 2 ≤ S → J S s A → Ch w.heap.size S A C → J S s C) (hD : ∀ S A C, w.heap.size + 2 ≤ S → D S A → Ch w.heap.size S A C → D S C)
    (h0 : ∀ S, w.heap.size + 2 ≤ S → J S [] w) (Ax : Array Value → Act → Prop)
    (hassign : ∀ (l S : Nat) (x : α) (A W : World) (v : Array Value) (K : Act → World → Prop), Enc x S A W v → (∀ a', Ax v a' → K a' W) →
      assign.wpIn (F.inRound l) (n - 1 - 1) P (Exit.then K (fun _ _ _ => False)) { tmps := (ps.zip v).foldl (fun t (p, v) => t.setIfInBounds p v) a.tmps, defers := [] } W)
    (hbody : ∀ (l S : Nat) (pre : List α) (x : α) (v : Array Value) (a' : Act) (A W : World), w.heap.size + 2 ≤ S → S ≤ W.heap.size → A.heap.size ≤ W.heap.size → J S pre A → Ch w.heap.size S A W → Ax v a' → pre ++ [x] <+: L → Enc x S A W v →
      body.wpIn (F.inRound l) (n - 1 - 1) P (roundEndG w.heap.size S A W J D (pre ++ [x])) a' W)
    (hdone : ∀ (S Dk : Nat) (W : World), w.heap.size ≤ Dk → Dk < w.heap.size + 2 → w.heap.size + 2 ≤ S → J S L W → W.heap[Dk]? = some (.deferred (some [])) → Q .normal { a with defers := { target := .collected Dk, args := #[] } :: a.defers } W)
    (hstop : ∀ (S Dk : Nat) (W : World), w.heap.size ≤ Dk → Dk < w.heap.size + 2 → w.heap.size + 2 ≤ S → D S W → W.heap[Dk]? = some (.deferred (some [])) → Code.ret.wpIn F n P Q { a with defers := { target := .collected Dk, args := #[] } :: a.defers } W) :
    (Code.rangeFunc g ps assign body).wpIn F n P Q a w := by
  refine wpIn_rangeFunc fun fn hfn => ?_
  rw [hro]
  obtain ⟨rec, hrec⟩ : ∃ rec : LoopState → Option Code → Loop, rec = fun st pe => { state := st, pending := pe, fn, tmps := a.tmps, params := ps, assign, body, defers := w.heap.size } := ⟨_, rfl⟩
  obtain ⟨W1, hW1⟩ : ∃ W1, (w.alloc (.deferred (some []))).alloc (.loop (rec .ready none)) = W1 := ⟨_, rfl⟩
  have hgrow : Below w.heap.size w W1 := by rw [← hW1]; exact ((Below.refl _ w).alloc (Nat.le_refl _) _).alloc (by simp) _
  have hsz : W1.heap.size = w.heap.size + 2 := by rw [← hW1]; simp
  have hl1 : W1.heap[w.heap.size + 1]? = some (.loop (rec .ready none)) := by
    rw [← hW1]
    have := heap_alloc_new (w.alloc (.deferred (some []))) (.loop (rec .ready none))
    rwa [World.size_alloc] at this
  have hd1 : W1.heap[w.heap.size]? = some (.deferred (some [])) := by
    rw [← hW1]
    exact (heap_alloc_old _ _ (by simp)).trans (heap_alloc_new w _)
  refine ⟨w.heap.size + 1, [{ target := .collected w.heap.size, args := #[] }], W1, { target := .fn (.func gf) lb, args := #[.func (.yield (w.heap.size + 1)) #[] #[]] }, W1, gf, #[.func (.yield (w.heap.size + 1)) #[] #[]] ++ lb, W1,
    ?_, by simp only [resolve, hg]; simp [go_sem], fun f' hf' => by simp [Target.leads] at hf'; subst hf'; exact hFg, by simp [invoke, go_sem, eg], fun _ => h1, ?_⟩
  · rw [← hW1, hrec]; exact run_enterLoop_outer _ _ _ _ _
  -- what the law keeps beside the caller's own
  have stab : ∀ (st : LoopState) (pe : Option Code) (S : Nat) (A C : World), W1.heap.size ≤ S → A.heap[w.heap.size + 1]? = some (.loop (rec st pe)) → A.heap[w.heap.size]? = some (.deferred (some [])) → Ch W1.heap.size S A C →
      C.heap[w.heap.size + 1]? = some (.loop (rec st pe)) ∧ C.heap[w.heap.size]? = some (.deferred (some [])) := fun st pe S A C hS hl hd hk =>
    ⟨(hk.b.block _ (by omega)).trans hl, (hk.b.block _ (by omega)).trans hd⟩
  refine (hseq (w.heap.size + 1)
    (fun S pre W => J S pre W ∧ W.heap[w.heap.size + 1]? = some (.loop (rec .ready none)) ∧ W.heap[w.heap.size]? = some (.deferred (some [])))
    (fun S W => D S W ∧ W.heap[w.heap.size + 1]? = some (.loop (rec .done (some .ret))) ∧ W.heap[w.heap.size]? = some (.deferred (some [])))
    W1 (hb0.trans (hgrow.mono hb0.size))
    (fun S s A C hS ⟨hi, hl, hd⟩ hk => ⟨hJ S s A C (by omega) hi (hk.mono (by omega) (Nat.le_refl _)), stab _ _ S A C hS hl hd hk⟩)
    (fun S A C hS ⟨hi, hl, hd⟩ hk => ⟨hD S A C (by omega) hi (hk.mono (by omega) (Nat.le_refl _)), stab _ _ S A C hS hl hd hk⟩)
    ?_ (fun S hS => ⟨hJ S [] w W1 (by omega) (h0 S (by omega)) (Ch.below hgrow (Nat.le_refl _)), hl1, hd1⟩)).mono ?_
  · rintro S pre x A W v hS hSW hAW ⟨hi, hlA, hdA⟩ hch hpre hE
    obtain ⟨hl, hd⟩ := stab _ _ S A W hS hlA hdA hch
    have hA : w.heap.size + 1 < A.heap.size := (Array.getElem?_eq_some_iff.1 hlA).1
    have hV : w.heap.size + 1 < W.heap.size := (Array.getElem?_eq_some_iff.1 hl).1
    have hy := run_yield (P := P) (args := v) hl (by rw [hrec]; exact hps _ _ _ _ _ hE)
    rw [hrec] at hy
    refine ⟨fn, _, assign, body, hy, roundIn_of_wpIn hfn (hassign _ S x A W v _ hE ?_)⟩
    clear hy
    intro a' hax
    refine ⟨_, run_beginRound hl (by rw [hrec]), ?_⟩
    have hl2 : (W.putObj (w.heap.size + 1) (.loop { rec .ready none with state := .busy })).heap[w.heap.size + 1]? = some (.loop { rec .ready none with state := .busy }) := World.putObj_heap_same hV
    have hd2 : (W.putObj (w.heap.size + 1) (.loop { rec .ready none with state := .busy })).heap[w.heap.size]? = some (.deferred (some [])) := (World.putObj_heap_other (by omega)).trans hd
    have hch2 : Ch w.heap.size S A (W.putObj (w.heap.size + 1) (.loop { rec .ready none with state := .busy })) := (hch.mono (by omega) (Nat.le_refl _)).trans (Ch.put _ _ _ (by omega) (by omega))
    refine wpIn_mono (hbody _ S pre x v a' A _ (by omega) (by simp; omega) (by simp; omega) hi hch2 hax hpre (hEnc _ _ _ _ _ _ _ _ hE hA hl)) ?_
    -- the record is put back
    have fin : ∀ (jump : Option Code) (W3 : World), Gk w.heap.size S A (W.putObj (w.heap.size + 1) (.loop { rec .ready none with state := .busy })) W3 →
        (Instr.endRound (w.heap.size + 1) jump).run P W3 = .ok (.bool jump.isNone) (W3.putObj (w.heap.size + 1) (.loop (rec (if jump.isNone then .ready else .done) jump))) ∧
        Ch w.heap.size S W3 (W3.putObj (w.heap.size + 1) (.loop (rec (if jump.isNone then .ready else .done) jump))) ∧
        Gk W1.heap.size S A W (W3.putObj (w.heap.size + 1) (.loop (rec (if jump.isNone then .ready else .done) jump))) ∧
        (W3.putObj (w.heap.size + 1) (.loop (rec (if jump.isNone then .ready else .done) jump))).heap[w.heap.size + 1]? = some (.loop (rec (if jump.isNone then .ready else .done) jump)) ∧
        (W3.putObj (w.heap.size + 1) (.loop (rec (if jump.isNone then .ready else .done) jump))).heap[w.heap.size]? = some (.deferred (some [])) := fun jump W3 hk3 => by
      have hl3 := (hk3.own _ (by omega) (by omega)).trans hl2
      have hd3 := (hk3.own _ (Nat.le_refl _) (by omega)).trans hd2
      have hr := run_endRound (P := P) jump hl3
      have hlt := (Array.getElem?_eq_some_iff.1 hl3).1
      rw [hrec] at hr ⊢
      refine ⟨hr, Ch.put _ _ _ (by omega) (by omega), ⟨?_, ?_, ?_⟩, World.putObj_heap_same hlt, (World.putObj_heap_other (by omega)).trans hd3⟩
      · have := hk3.b; simp at this ⊢; exact this
      · intro k hk1 hk2
        rw [World.putObj_heap_other (by omega), hk3.own k (by omega) hk2, World.putObj_heap_other (by omega)]
      · intro k hk1 hk2
        rw [World.putObj_heap_other (by omega), hk3.mine k hk1 (by simp; omega), World.putObj_heap_other (by omega)]
    rintro e a3 V3 hp
    cases e with
    | normal =>
      obtain ⟨hk3, hi3⟩ := hp
      obtain ⟨hr, hc, hgk, hl4, hd4⟩ := fin none V3 hk3
      exact ⟨_, _, hr, hgk, .inl ⟨rfl, hJ _ _ _ _ (by omega) hi3 hc, hl4, hd4⟩⟩
    | ret =>
      obtain ⟨hk3, hi3⟩ := hp
      obtain ⟨hr, hc, hgk, hl4, hd4⟩ := fin (some .ret) V3 hk3
      exact ⟨_, _, hr, hgk, .inr ⟨rfl, hD _ _ _ (by omega) hi3 hc, hl4, hd4⟩⟩
    | exit id => exact hp.elim
    | goto t => exact hp.elim
    | panic ch => exact hp.elim
    | outgrown => exact hp.elim
  · rintro e V ⟨⟨v, rfl⟩, S, hS, (⟨hi, hl, hd⟩ | ⟨hi, hl, hd⟩)⟩
    · exact ⟨none, _, by have := run_endLoop (P := P) hl (by rw [hrec]; simp); rw [hrec] at this; exact this, hdone S _ _ (Nat.le_refl _) (by omega) (by omega) (hJ _ _ _ _ (by omega) hi (Ch.put _ _ _ (by omega) (by omega))) ((World.putObj_heap_other (by omega)).trans hd)⟩
    · exact ⟨some .ret, _, by have := run_endLoop (P := P) hl (by rw [hrec]; simp); rw [hrec] at this; exact this, hstop S _ _ (Nat.le_refl _) (by omega) (by omega) (hD _ _ _ (by omega) hi (Ch.put _ _ _ (by omega) (by omega))) ((World.putObj_heap_other (by omega)).trans hd)⟩
end Go.Proofs.Ytaoipbndmfjmhaa
