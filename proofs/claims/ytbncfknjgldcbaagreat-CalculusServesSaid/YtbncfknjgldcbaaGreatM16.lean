/- Merged texts: CHandB. -/
import Derived.Test.YtbncfknjgldcbaaGreatM14
import Derived.Shelf.RegionOpen
/- A range over a function whose rounds write only what stood before the iterator began (or what they make); the iterator does as it likes with the rest. Rounds may leave by return. -/
namespace Go.Proofs.YtbncfknjgldcbaaGreat
open Go.RowKit Go.Joins

/-- What a round must leave: all blocks from B on that stand. -/
structure Kb (B : Nat) (W W' : World) : Prop where
  b : W.heap.size ≤ W'.heap.size
  same : ∀ k, B ≤ k → k < W.heap.size → W'.heap[k]? = W.heap[k]?
theorem Kb.refl (B : Nat) (W : World) : Kb B W W := ⟨Nat.le_refl _, fun _ _ _ => rfl⟩
theorem Kb.trans {B : Nat} {W1 W2 W3 : World} (h : Kb B W1 W2) (k : Kb B W2 W3) : Kb B W1 W3 :=
  ⟨Nat.le_trans h.b k.b, fun i h1 h2 => (k.same i h1 (Nat.lt_of_lt_of_le h2 h.b)).trans (h.same i h1 h2)⟩
theorem Kb.mono {B B' : Nat} {W1 W2 : World} (h : Kb B W1 W2) (hB : B ≤ B') : Kb B' W1 W2 := ⟨h.b, fun i h1 h2 => h.same i (Nat.le_trans hB h1) h2⟩
theorem Kb.below {B : Nat} {W W' : World} (h : Below W.heap.size W W') : Kb B W W' := ⟨h.size, fun i _ h2 => h.block i h2⟩
theorem Kb.set {B : Nat} (W : World) (a : Addr) (v : Value) (h : a.block < B) : Kb B W (W.setCell a v) := ⟨by simp, fun i h1 _ => Below.heap_setCell W a v i (by omega)⟩
theorem Kb.cell {B : Nat} {W W' : World} (h : Kb B W W') {b o : Nat} (h1 : B ≤ b) (h2 : b < W.heap.size) : W'.cell? ⟨b, o, none⟩ = W.cell? ⟨b, o, none⟩ := by
  unfold World.cell?
  rw [h.same b h1 h2]
theorem Kb.boxN {B b : Nat} {W W' : World} {t : TypeId} {cs : Array Value} (h : Kb B W W') (hx : BoxN W b t cs) (h1 : B ≤ b) : BoxN W' b t cs := (h.same b h1 hx.lt).trans hx

/-- The iterator hands on the list L, or stops when a round says so. -/
def HandsB {α : Type} (F : Fence) (n : Nat) (P : Program) (g : Nat) (lb : Array Value) (enc : α → Array Value) (R : World → Prop) (L : List α) (w0 : World) : Prop :=
  ∀ (l : Nat) (J : List α → World → Prop) (D : World → Prop) (W : World), Below w0.heap.size w0 W → (∀ s A, J s A → R A) →
    (∀ s A C, J s A → Below W.heap.size A C → J s C) → (∀ A C, D A → Below W.heap.size A C → D C) →
    (∀ pre x W1, W.heap.size ≤ W1.heap.size → J pre W1 → pre ++ [x] <+: L →
      YieldAt F (n - 1) P l (enc x) W1 fun e W' => Kb W.heap.size W1 W' ∧ ((e = .returned (.bool true) ∧ J (pre ++ [x]) W') ∨ (e = .returned (.bool false) ∧ D W'))) →
    J [] W → CallsIn F n P g (#[.func (.yield l) #[] #[]] ++ lb) W fun e W' => (∃ v, e = .returned v) ∧ (J L W' ∨ D W')

/-- How a round of such a loop is left. -/
def roundEndB {α : Type} (B : Nat) (W : World) (J : List α → World → Prop) (D : World → Prop) (xs : List α) : Exit → Act → World → Prop
  | .normal, _, W' => Kb B W W' ∧ J xs W'
  | .ret, _, W' => Kb B W W' ∧ D W'
  | _, _, _ => False

theorem wpIn_handsB {F : Fence} {n : Nat} {P : Program} {α : Type} {g : Operand} {ps : Array Tmp} {assign body : Code} {Q : Exit → Act → World → Prop} {a : Act} {w : World}
    (hro : F.round = none) (h1 : 1 ≤ n) {gf : Nat} {lb : Array Value} (hg : a.eval g = .func (.func gf) #[] lb) (hFg : F.fn gf) (eg : ∀ args w, (callFunc gf args).run P w = .ok (.enter gf args) w)
    {enc : α → Array Value} {R : World → Prop} {L : List α} {w0 : World} (hseq : HandsB F (n - 1) P gf lb enc R L w0) (hb0 : Below w0.heap.size w0 w) (hps : ∀ x, (enc x).size = ps.size)
    (J : List α → World → Prop) (D : World → Prop) (hJR : ∀ s A, J s A → R A) (hJ : ∀ s A C, J s A → Below w.heap.size A C → J s C) (hD : ∀ A C, D A → Below w.heap.size A C → D C)
    (h0 : J [] w) (Ax : α → Act → World → Prop)
    (hAx : ∀ x a' (A : World) l r r', Ax x a' A → w.heap.size ≤ l → l < w.heap.size + 2 → A.heap[l]? = some (.loop r) → Ax x a' (A.putObj l (.loop r')))
    (hassign : ∀ (l : Nat) (pre : List α) (x : α) (W : World) (K : Act → World → Prop), J pre W → w.heap.size + 2 ≤ W.heap.size → (∀ a' W', Kb w.heap.size W W' → J pre W' → Ax x a' W' → K a' W') →
      assign.wpIn (F.inRound l) (n - 1 - 1) P (Exit.then K (fun _ _ _ => False)) { tmps := (ps.zip (enc x)).foldl (fun t (p, v) => t.setIfInBounds p v) a.tmps, defers := [] } W)
    (hbody : ∀ (l : Nat) (pre : List α) (x : α) (a' : Act) (W : World), w.heap.size + 2 ≤ W.heap.size → J pre W → Ax x a' W → pre ++ [x] <+: L →
      body.wpIn (F.inRound l) (n - 1 - 1) P (roundEndB w.heap.size W J D (pre ++ [x])) a' W)
    (hdone : ∀ (Dk : Nat) (W : World), w.heap.size ≤ Dk → w.heap.size + 2 ≤ W.heap.size → J L W → W.heap[Dk]? = some (.deferred (some [])) → Q .normal { a with defers := { target := .collected Dk, args := #[] } :: a.defers } W)
    (hstop : ∀ (Dk : Nat) (W : World), w.heap.size ≤ Dk → w.heap.size + 2 ≤ W.heap.size → D W → W.heap[Dk]? = some (.deferred (some [])) → Code.ret.wpIn F n P Q { a with defers := { target := .collected Dk, args := #[] } :: a.defers } W) :
    (Code.rangeFunc g ps assign body).wpIn F n P Q a w := by
  refine wpIn_rangeFunc fun fn hfn => ?_
  rw [hro]
  obtain ⟨rec, hrec⟩ : ∃ rec : LoopState → Option Code → Loop, rec = fun st pe => { state := st, pending := pe, fn, tmps := a.tmps, params := ps, assign, body, defers := w.heap.size } := ⟨_, rfl⟩
  obtain ⟨W1, hW1⟩ : ∃ W1, (w.alloc (.deferred (some []))).alloc (.loop (rec .ready none)) = W1 := ⟨_, rfl⟩
  have hgrow : Below w.heap.size w W1 := by rw [← hW1]; exact ((Below.refl _ w).alloc (Nat.le_refl _) _).alloc (by simp) _
  have hsz : W1.heap.size = w.heap.size + 2 := by rw [← hW1]; simp
  have hl1 : W1.heap[w.heap.size + 1]? = some (.loop (rec .ready none)) := by
    rw [← hW1]
    have := heap_alloc_new (w.alloc (.deferred (some []))) (.loop (rec .ready none))
    rwa [World.size_alloc] at this
  have hd1 : W1.heap[w.heap.size]? = some (.deferred (some [])) := by
    rw [← hW1]
    exact (heap_alloc_old _ _ (by simp)).trans (heap_alloc_new w _)
  refine ⟨w.heap.size + 1, [{ target := .collected w.heap.size, args := #[] }], W1, { target := .fn (.func gf) lb, args := #[.func (.yield (w.heap.size + 1)) #[] #[]] }, W1, gf, #[.func (.yield (w.heap.size + 1)) #[] #[]] ++ lb, W1,
    ?_, by simp only [resolve, hg]; simp [go_sem], fun f' hf' => by simp [Target.leads] at hf'; subst hf'; exact hFg, by simp [invoke, go_sem, eg], fun _ => h1, ?_⟩
  · rw [← hW1, hrec]; exact run_enterLoop_outer _ _ _ _ _
  have put : ∀ (A : World) (o : Obj), Below w.heap.size A (A.putObj (w.heap.size + 1) o) := fun A o => ⟨rfl, rfl, rfl, by simp, fun k hk => World.putObj_heap_other (by omega)⟩
  have stab : ∀ (st : LoopState) (pe : Option Code) (A C : World), A.heap[w.heap.size + 1]? = some (.loop (rec st pe)) → A.heap[w.heap.size]? = some (.deferred (some [])) → Below W1.heap.size A C →
      C.heap[w.heap.size + 1]? = some (.loop (rec st pe)) ∧ C.heap[w.heap.size]? = some (.deferred (some [])) := fun st pe A C hl hd hk =>
    ⟨(hk.block _ (by omega)).trans hl, (hk.block _ (by omega)).trans hd⟩
  refine (hseq (w.heap.size + 1)
    (fun pre W => J pre W ∧ W.heap[w.heap.size + 1]? = some (.loop (rec .ready none)) ∧ W.heap[w.heap.size]? = some (.deferred (some [])))
    (fun W => D W ∧ W.heap[w.heap.size + 1]? = some (.loop (rec .done (some .ret))) ∧ W.heap[w.heap.size]? = some (.deferred (some [])))
    W1 (hb0.trans (hgrow.mono hb0.size)) (fun s A h => hJR s A h.1)
    (fun s A C ⟨hi, hl, hd⟩ hk => ⟨hJ s A C hi (hk.mono (by omega)), stab _ _ A C hl hd hk⟩)
    (fun A C ⟨hi, hl, hd⟩ hk => ⟨hD A C hi (hk.mono (by omega)), stab _ _ A C hl hd hk⟩)
    ?_ ⟨hJ [] w W1 h0 hgrow, hl1, hd1⟩).mono ?_
  · rintro pre x W hSW ⟨hi, hl, hd⟩ hpre
    have hV : w.heap.size + 1 < W.heap.size := (Array.getElem?_eq_some_iff.1 hl).1
    have hy := run_yield (P := P) (args := enc x) hl (by rw [hrec]; exact hps x)
    rw [hrec] at hy
    refine ⟨fn, _, assign, body, hy, roundIn_of_wpIn hfn (hassign _ pre x W _ hi (by omega) ?_)⟩
    clear hy
    intro a' V hkV hiV hax
    have hlV := (hkV.same _ (by omega) hV).trans hl
    have hdV := (hkV.same _ (Nat.le_refl _) (by omega)).trans hd
    have hVV : w.heap.size + 1 < V.heap.size := (Array.getElem?_eq_some_iff.1 hlV).1
    refine ⟨_, run_beginRound hlV (by rw [hrec]), ?_⟩
    have hl2 : (V.putObj (w.heap.size + 1) (.loop { rec .ready none with state := .busy })).heap[w.heap.size + 1]? = some (.loop { rec .ready none with state := .busy }) := World.putObj_heap_same hVV
    have hd2 : (V.putObj (w.heap.size + 1) (.loop { rec .ready none with state := .busy })).heap[w.heap.size]? = some (.deferred (some [])) := (World.putObj_heap_other (by omega)).trans hdV
    refine wpIn_mono (hbody _ pre x a' _ (by simp; omega) (hJ _ _ _ hiV (put _ _)) (hAx _ _ _ _ _ _ hax (by omega) (by omega) hlV) hpre) ?_
    have fin : ∀ (jump : Option Code) (W3 : World), Kb w.heap.size (V.putObj (w.heap.size + 1) (.loop { rec .ready none with state := .busy })) W3 →
        (Instr.endRound (w.heap.size + 1) jump).run P W3 = .ok (.bool jump.isNone) (W3.putObj (w.heap.size + 1) (.loop (rec (if jump.isNone then .ready else .done) jump))) ∧
        Kb W1.heap.size W (W3.putObj (w.heap.size + 1) (.loop (rec (if jump.isNone then .ready else .done) jump))) ∧
        (W3.putObj (w.heap.size + 1) (.loop (rec (if jump.isNone then .ready else .done) jump))).heap[w.heap.size + 1]? = some (.loop (rec (if jump.isNone then .ready else .done) jump)) ∧
        (W3.putObj (w.heap.size + 1) (.loop (rec (if jump.isNone then .ready else .done) jump))).heap[w.heap.size]? = some (.deferred (some [])) := fun jump W3 hk3 => by
      have hl3 := (hk3.same _ (by omega) (by simp; omega)).trans hl2
      have hd3 := (hk3.same _ (Nat.le_refl _) (by simp; omega)).trans hd2
      have hr := run_endRound (P := P) jump hl3
      have hlt := (Array.getElem?_eq_some_iff.1 hl3).1
      rw [hrec] at hr ⊢
      refine ⟨hr, ⟨?_, ?_⟩, World.putObj_heap_same hlt, (World.putObj_heap_other (by omega)).trans hd3⟩
      · have h5 := hk3.b
        have h6 := hkV.b
        simp at h5 ⊢
        omega
      · intro k hk1 hk2
        have h6 := hkV.b
        rw [World.putObj_heap_other (by omega), hk3.same k (by omega) (by simp; omega), World.putObj_heap_other (by omega), hkV.same k (by omega) hk2]
    rintro e a3 V3 hp
    cases e with
    | normal =>
      obtain ⟨hk3, hi3⟩ := hp
      obtain ⟨hr, hgk, hl4, hd4⟩ := fin none V3 hk3
      exact ⟨_, _, hr, hgk, .inl ⟨rfl, hJ _ _ _ hi3 (put _ _), hl4, hd4⟩⟩
    | ret =>
      obtain ⟨hk3, hi3⟩ := hp
      obtain ⟨hr, hgk, hl4, hd4⟩ := fin (some .ret) V3 hk3
      exact ⟨_, _, hr, hgk, .inr ⟨rfl, hD _ _ hi3 (put _ _), hl4, hd4⟩⟩
    | exit id => exact hp.elim
    | goto t => exact hp.elim
    | panic ch => exact hp.elim
    | outgrown => exact hp.elim
  · rintro e V ⟨⟨v, rfl⟩, (⟨hi, hl, hd⟩ | ⟨hi, hl, hd⟩)⟩
    · have hlt := (Array.getElem?_eq_some_iff.1 hl).1
      exact ⟨none, _, by have := run_endLoop (P := P) hl (by rw [hrec]; simp); rw [hrec] at this; exact this, hdone _ _ (Nat.le_refl _) (by simp; omega) (hJ _ _ _ hi (put _ _)) ((World.putObj_heap_other (by omega)).trans hd)⟩
    · have hlt := (Array.getElem?_eq_some_iff.1 hl).1
      exact ⟨some .ret, _, by have := run_endLoop (P := P) hl (by rw [hrec]; simp); rw [hrec] at this; exact this, hstop _ _ (Nat.le_refl _) (by simp; omega) (hD _ _ hi (put _ _)) ((World.putObj_heap_other (by omega)).trans hd)⟩
end Go.Proofs.YtbncfknjgldcbaaGreat
