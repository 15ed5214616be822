/- Merged texts: CHands, CBackw, CGaps1, CConfOk. -/
import Derived.Test.YtbncfknjgldcbaaGreatM17
import Derived.RangeFuncNested
import Derived.RangeFuncLeaves
import Derived.RangeFuncCalls
import Derived.OwnWalkIn
import Derived.TacticsInMore
import Derived.LoopNIn
import Derived.LoopIn
import Derived.Carry
import Derived.Test.YtbncfknjgldcbaaGreatM2
/- Ranges over functions: an iterator that writes variables of its own; one that writes nothing. -/
namespace Go.Proofs.YtbncfknjgldcbaaGreat
open Go.RowKit Go.Joins

/-- What an iterator that began at a heap of size B may do of its own: no record of a loop turns, and nothing below B. -/
structure Ins (B : Nat) (W W' : World) : Prop where
  b : Below B W W'
  o : KeepsOthers W W'
theorem Ins.refl (B : Nat) (W : World) : Ins B W W := ⟨Below.refl _ _, KeepsOthers.refl _⟩
theorem Ins.trans {B : Nat} {W1 W2 W3 : World} (h : Ins B W1 W2) (k : Ins B W2 W3) : Ins B W1 W3 := ⟨h.b.trans k.b, h.o.trans k.o⟩
theorem Ins.below {B : Nat} {W W' : World} (hb : Below W.heap.size W W') (h : B ≤ W.heap.size) : Ins B W W' :=
  ⟨hb.mono h, ⟨hb.size, fun k _ hk _ => (hb.block k (Array.getElem?_eq_some_iff.1 hk).1).trans hk⟩⟩
theorem Ins.setCell {B : Nat} {W : World} {a : Addr} (hB : B ≤ a.block) (v : Value) : Ins B W (W.setCell a v) := ⟨(Below.refl _ _).setCell hB v, KeepsOthers.setCell _ _ _⟩
theorem Ins.alloc {B : Nat} (W : World) (o : Obj) (hB : B ≤ W.heap.size) : Ins B W (W.alloc o) := Ins.below ((Below.refl _ _).alloc (Nat.le_refl _) _) hB

/-- The iterator hands on the list L. -/
def Hands {α : Type} (F : Fence) (n : Nat) (P : Program) (g : Nat) (lb : Array Value) (enc : α → Array Value) (Kp : World → World → Prop) (L : List α) (w0 : World) : Prop :=
  ∀ (l : Nat) (J : List α → World → Prop) (W : World), Below w0.heap.size w0 W → (∀ s A C, J s A → Ins W.heap.size A C → J s C) →
    (∀ pre x W1, J pre W1 → pre ++ [x] <+: L → YieldAt F (n - 1) P l (enc x) W1 fun e W' => e = .returned (.bool true) ∧ J (pre ++ [x]) W' ∧ Kp W1 W') →
    J [] W → CallsIn F n P g (#[.func (.yield l) #[] #[]] ++ lb) W fun e W' => (∃ v, e = .returned v) ∧ J L W'

/-- How a round of such a loop is left. -/
def roundEnd {α : Type} (B : Nat) (Kp : World → World → Prop) (I : List α → World → Prop) (xs : List α) (W : World) : Exit → Act → World → Prop
  | .normal, _, W' => KeepsFrom B W W' ∧ Kp W W' ∧ I xs W'
  | _, _, _ => False

theorem wpIn_hands {F : Fence} {n : Nat} {P : Program} {α : Type} {g : Operand} {ps : Array Tmp} {assign body : Code} {Q : Exit → Act → World → Prop} {a : Act} {w : World}
    (hro : F.round = none) (h1 : 1 ≤ n) {gf : Nat} {lb : Array Value} (hg : a.eval g = .func (.func gf) #[] lb) (hFg : F.fn gf) (eg : ∀ args w, (callFunc gf args).run P w = .ok (.enter gf args) w)
    {enc : α → Array Value} {Kp : World → World → Prop} {L : List α} {w0 : World} (hseq : Hands F (n - 1) P gf lb enc Kp L w0)
    (hKt : ∀ {A B C : World}, Kp A B → Kp B C → Kp A C) (hKb : ∀ (W : World) (l : Nat) (o o' : Obj), w.heap.size ≤ l → W.heap[l]? = some o → o.isCells = false → Kp W (W.putObj l o')) (hb0 : Below w0.heap.size w0 w) (hps : ∀ x, (enc x).size = ps.size)
    (I : List α → World → Prop) (hI : ∀ s A C, I s A → Below w.heap.size A C → I s C) (h0 : I [] w) (Ax : α → Act → World → Prop)
    (hAx : ∀ x a' (A : World) l r r', Ax x a' A → w.heap.size ≤ l → A.heap[l]? = some (.loop r) → Ax x a' (A.putObj l (.loop r')))
    (hassign : ∀ (l : Nat) (pre : List α) (x : α) (W : World) (K : Act → World → Prop), I pre W → w.heap.size ≤ W.heap.size → (∀ a' W', KeepsFrom w.heap.size W W' → Kp W W' → I pre W' → Ax x a' W' → K a' W') →
      assign.wpIn (F.inRound l) (n - 1 - 1) P (Exit.then K (fun _ _ _ => False)) { tmps := (ps.zip (enc x)).foldl (fun t (p, v) => t.setIfInBounds p v) a.tmps, defers := [] } W)
    (hbody : ∀ (l : Nat) (pre : List α) (x : α) (a' : Act) (W : World), w.heap.size ≤ W.heap.size → I pre W → Ax x a' W → pre ++ [x] <+: L → body.wpIn (F.inRound l) (n - 1 - 1) P (roundEnd w.heap.size Kp I (pre ++ [x]) W) a' W)
    (hdone : ∀ (D : Nat) (W : World), w.heap.size ≤ D → I L W → W.heap[D]? = some (.deferred (some [])) → Q .normal { a with defers := { target := .collected D, args := #[] } :: a.defers } W) :
    (Code.rangeFunc g ps assign body).wpIn F n P Q a w := by
  refine wpIn_rangeFunc fun fn hfn => ?_
  rw [hro]
  -- the loop's record, by its state
  let rec0 : LoopState → Loop := fun st => { state := st, pending := none, fn, tmps := a.tmps, params := ps, assign, body, defers := w.heap.size }
  have hIp : ∀ s (A : World) (l : Nat) (o : Obj), I s A → w.heap.size ≤ l → I s (A.putObj l o) := fun s A l o h hl =>
    hI s A _ h ⟨rfl, rfl, rfl, by simp, fun k hk => World.putObj_heap_other (by omega)⟩
  obtain ⟨W1, hW1⟩ : ∃ W1, (w.alloc (.deferred (some []))).alloc (.loop (rec0 .ready)) = W1 := ⟨_, rfl⟩
  have hgrow : Below w.heap.size w W1 := by rw [← hW1]; exact ((Below.refl _ w).alloc (Nat.le_refl _) _).alloc (by simp) _
  have hsz : W1.heap.size = w.heap.size + 2 := by rw [← hW1]; simp
  have hl1 : W1.heap[w.heap.size + 1]? = some (.loop (rec0 .ready)) := by
    rw [← hW1]
    have := heap_alloc_new (w.alloc (.deferred (some []))) (.loop (rec0 .ready))
    rwa [World.size_alloc] at this
  have hd1 : W1.heap[w.heap.size]? = some (.deferred (some [])) := by
    rw [← hW1]
    exact (heap_alloc_old _ _ (by simp)).trans (heap_alloc_new w _)
  refine ⟨w.heap.size + 1, [{ target := .collected w.heap.size, args := #[] }], W1, { target := .fn (.func gf) lb, args := #[.func (.yield (w.heap.size + 1)) #[] #[]] }, W1, gf, #[.func (.yield (w.heap.size + 1)) #[] #[]] ++ lb, W1,
    by rw [← hW1]; exact run_enterLoop_outer _ _ _ _ _, by simp only [resolve, hg]; simp [go_sem], fun f' hf' => by simp [Target.leads] at hf'; subst hf'; exact hFg, by simp [invoke, go_sem, eg], fun _ => h1, ?_⟩
  refine (hseq (w.heap.size + 1) (fun pre W => I pre W ∧ W.heap[w.heap.size + 1]? = some (.loop (rec0 .ready)) ∧ W.heap[w.heap.size]? = some (.deferred (some [])) ∧ w.heap.size ≤ W.heap.size) W1 (hb0.trans (hgrow.mono hb0.size))
    (fun s A C ⟨hi, hl, hd, hz⟩ hk => ⟨hI s A C hi (hk.b.mono (by omega)), hk.o.same _ _ hl rfl, hk.o.same _ _ hd rfl, Nat.le_trans hz hk.b.size⟩) ?_ ⟨hI _ _ _ h0 hgrow, hl1, hd1, by omega⟩).mono ?_
  · rintro pre x W ⟨hi, hl, hd, hz⟩ hpre
    refine ⟨fn, _, assign, body, run_yield (P := P) (args := enc x) hl (hps x), roundIn_of_wpIn hfn (hassign _ pre x W _ hi hz ?_)⟩
    intro a' V hkf hkp hi' hax
    have hl' := hkf.same _ _ (Nat.le_succ _) hl rfl
    have hd' := hkf.same _ _ (Nat.le_refl _) hd rfl
    have hV : w.heap.size + 1 < V.heap.size := (Array.getElem?_eq_some_iff.1 hl').1
    refine ⟨_, run_beginRound hl' rfl, ?_⟩
    have hl2 : (V.putObj (w.heap.size + 1) (.loop (rec0 .busy))).heap[w.heap.size + 1]? = some (.loop (rec0 .busy)) := World.putObj_heap_same hV
    have hd2 : (V.putObj (w.heap.size + 1) (.loop (rec0 .busy))).heap[w.heap.size]? = some (.deferred (some [])) := (World.putObj_heap_other (by omega)).trans hd'
    refine wpIn_mono (hbody _ pre x a' _ (by simp; omega) (hIp _ _ _ _ hi' (Nat.le_succ _)) (hAx x a' V _ _ _ hax (Nat.le_succ _) hl') hpre) ?_
    rintro e a3 V3 hp
    cases e with
    | normal =>
      obtain ⟨hk3, hkp3, hi3⟩ := hp
      have hl3 := hk3.same _ _ (Nat.le_succ _) hl2 rfl
      have hd3 := hk3.same _ _ (Nat.le_refl _) hd2 rfl
      have hV3 := (Array.getElem?_eq_some_iff.1 hl3).1
      refine ⟨_, _, run_endRound (P := P) none hl3, rfl, ⟨hIp _ _ _ _ hi3 (Nat.le_succ _), World.putObj_heap_same hV3, (World.putObj_heap_other (by omega)).trans hd3, by simp; omega⟩, ?_⟩
      exact hKt hkp (hKt (hKt (hKb _ _ _ _ (Nat.le_succ _) hl' rfl) hkp3) (hKb _ _ _ _ (Nat.le_succ _) hl3 rfl))
    | ret => exact hp.elim
    | exit id => exact hp.elim
    | goto t => exact hp.elim
    | panic ch => exact hp.elim
    | outgrown => exact hp.elim
  · rintro e V ⟨⟨v, rfl⟩, hi, hl, hd, hz⟩
    exact ⟨none, _, run_endLoop (P := P) hl (by simp [rec0]), hdone _ _ (Nat.le_refl _) (hIp _ _ _ _ hi (Nat.le_succ _)) ((World.putObj_heap_other (by omega)).trans hd)⟩
/-- The iterator hands on the list L, and writes nothing of its own. -/
def HandsR {α : Type} (F : Fence) (n : Nat) (P : Program) (g : Nat) (lb : Array Value) (enc : α → Array Value) (R : World → Prop) (L : List α) (w0 : World) : Prop :=
  ∀ (l : Nat) (J : List α → World → Prop) (W : World), Below w0.heap.size w0 W → (∀ pre W1, J pre W1 → R W1) →
    (∀ pre x W1, J pre W1 → pre ++ [x] <+: L → YieldAt F (n - 1) P l (enc x) W1 fun e W' => e = .returned (.bool true) ∧ J (pre ++ [x]) W') →
    J [] W → CallsIn F n P g (#[.func (.yield l) #[] #[]] ++ lb) W fun e W' => (∃ v, e = .returned v) ∧ J L W'

/-- How a round of such a loop is left. -/
def roundEndR {α : Type} (B : Nat) (I : List α → World → Prop) (xs : List α) (W : World) : Exit → Act → World → Prop
  | .normal, _, W' => KeepsFrom B W W' ∧ I xs W'
  | _, _, _ => False

theorem wpIn_handsR {F : Fence} {n : Nat} {P : Program} {α : Type} {g : Operand} {ps : Array Tmp} {assign body : Code} {Q : Exit → Act → World → Prop} {a : Act} {w : World}
    (hro : F.round = none) (h1 : 1 ≤ n) {gf : Nat} {lb : Array Value} (hg : a.eval g = .func (.func gf) #[] lb) (hFg : F.fn gf) (eg : ∀ args w, (callFunc gf args).run P w = .ok (.enter gf args) w)
    {enc : α → Array Value} {R : World → Prop} {L : List α} {w0 : World} (hseq : HandsR F (n - 1) P gf lb enc R L w0) (hb0 : Below w0.heap.size w0 w) (hps : ∀ x, (enc x).size = ps.size)
    (I : List α → World → Prop) (hI : ∀ s (A : World) (l : Nat) (o o' : Obj), I s A → w.heap.size ≤ l → A.heap[l]? = some o → o.isCells = false → I s (A.putObj l o'))
    (hIR : ∀ s A, I s A → R A) (h0 : ∀ o o' : Obj, I [] ((w.alloc o).alloc o')) (Ax : α → Act → World → Prop)
    (hAx : ∀ x a' (A : World) l r r', Ax x a' A → w.heap.size ≤ l → A.heap[l]? = some (.loop r) → Ax x a' (A.putObj l (.loop r')))
    (hassign : ∀ (l : Nat) (pre : List α) (x : α) (W : World) (K : Act → World → Prop), I pre W → w.heap.size ≤ W.heap.size → (∀ a' W', KeepsFrom w.heap.size W W' → I pre W' → Ax x a' W' → K a' W') →
      assign.wpIn (F.inRound l) (n - 1 - 1) P (Exit.then K (fun _ _ _ => False)) { tmps := (ps.zip (enc x)).foldl (fun t (p, v) => t.setIfInBounds p v) a.tmps, defers := [] } W)
    (hbody : ∀ (l : Nat) (pre : List α) (x : α) (a' : Act) (W : World), w.heap.size ≤ W.heap.size → I pre W → Ax x a' W → pre ++ [x] <+: L → body.wpIn (F.inRound l) (n - 1 - 1) P (roundEndR w.heap.size I (pre ++ [x]) W) a' W)
    (hdone : ∀ (D : Nat) (W : World), w.heap.size ≤ D → I L W → W.heap[D]? = some (.deferred (some [])) → Q .normal { a with defers := { target := .collected D, args := #[] } :: a.defers } W) :
    (Code.rangeFunc g ps assign body).wpIn F n P Q a w := by
  refine wpIn_rangeFunc fun fn hfn => ?_
  rw [hro]
  let rec0 : LoopState → Loop := fun st => { state := st, pending := none, fn, tmps := a.tmps, params := ps, assign, body, defers := w.heap.size }
  obtain ⟨W1, hW1⟩ : ∃ W1, (w.alloc (.deferred (some []))).alloc (.loop (rec0 .ready)) = W1 := ⟨_, rfl⟩
  have h01 : I [] W1 := by rw [← hW1]; exact h0 _ _
  have hgrow : Below w.heap.size w W1 := by rw [← hW1]; exact ((Below.refl _ w).alloc (Nat.le_refl _) _).alloc (by simp) _
  have hsz : W1.heap.size = w.heap.size + 2 := by rw [← hW1]; simp
  have hl1 : W1.heap[w.heap.size + 1]? = some (.loop (rec0 .ready)) := by
    rw [← hW1]
    have := heap_alloc_new (w.alloc (.deferred (some []))) (.loop (rec0 .ready))
    rwa [World.size_alloc] at this
  have hd1 : W1.heap[w.heap.size]? = some (.deferred (some [])) := by
    rw [← hW1]
    exact (heap_alloc_old _ _ (by simp)).trans (heap_alloc_new w _)
  refine ⟨w.heap.size + 1, [{ target := .collected w.heap.size, args := #[] }], W1, { target := .fn (.func gf) lb, args := #[.func (.yield (w.heap.size + 1)) #[] #[]] }, W1, gf, #[.func (.yield (w.heap.size + 1)) #[] #[]] ++ lb, W1,
    by rw [← hW1]; exact run_enterLoop_outer _ _ _ _ _, by simp only [resolve, hg]; simp [go_sem], fun f' hf' => by simp [Target.leads] at hf'; subst hf'; exact hFg, by simp [invoke, go_sem, eg], fun _ => h1, ?_⟩
  refine (hseq (w.heap.size + 1) (fun pre W => I pre W ∧ W.heap[w.heap.size + 1]? = some (.loop (rec0 .ready)) ∧ W.heap[w.heap.size]? = some (.deferred (some [])) ∧ w.heap.size ≤ W.heap.size) W1 (hb0.trans (hgrow.mono hb0.size))
    (fun pre W1 h => hIR _ _ h.1) ?_ ⟨h01, hl1, hd1, by omega⟩).mono ?_
  · rintro pre x W ⟨hi, hl, hd, hz⟩ hpre
    refine ⟨fn, _, assign, body, run_yield (P := P) (args := enc x) hl (hps x), roundIn_of_wpIn hfn (hassign _ pre x W _ hi hz ?_)⟩
    intro a' V hkf hi' hax
    have hl' := hkf.same _ _ (Nat.le_succ _) hl rfl
    have hd' := hkf.same _ _ (Nat.le_refl _) hd rfl
    have hV : w.heap.size + 1 < V.heap.size := (Array.getElem?_eq_some_iff.1 hl').1
    refine ⟨_, run_beginRound hl' rfl, ?_⟩
    have hl2 : (V.putObj (w.heap.size + 1) (.loop (rec0 .busy))).heap[w.heap.size + 1]? = some (.loop (rec0 .busy)) := World.putObj_heap_same hV
    have hd2 : (V.putObj (w.heap.size + 1) (.loop (rec0 .busy))).heap[w.heap.size]? = some (.deferred (some [])) := (World.putObj_heap_other (by omega)).trans hd'
    refine wpIn_mono (hbody _ pre x a' _ (by simp; omega) (hI _ _ _ _ _ hi' (Nat.le_succ _) hl' rfl) (hAx x a' V _ _ _ hax (Nat.le_succ _) hl') hpre) ?_
    rintro e a3 V3 hp
    cases e with
    | normal =>
      obtain ⟨hk3, hi3⟩ := hp
      have hl3 := hk3.same _ _ (Nat.le_succ _) hl2 rfl
      have hd3 := hk3.same _ _ (Nat.le_refl _) hd2 rfl
      have hV3 := (Array.getElem?_eq_some_iff.1 hl3).1
      exact ⟨_, _, run_endRound (P := P) none hl3, rfl, hI _ _ _ _ _ hi3 (Nat.le_succ _) hl3 rfl, World.putObj_heap_same hV3, (World.putObj_heap_other (by omega)).trans hd3, by simp; omega⟩
    | ret => exact hp.elim
    | exit id => exact hp.elim
    | goto t => exact hp.elim
    | panic ch => exact hp.elim
    | outgrown => exact hp.elim
  · rintro e V ⟨⟨v, rfl⟩, hi, hl, hd, hz⟩
    exact ⟨none, _, run_endLoop (P := P) hl (by simp [rec0]), hdone _ _ (Nat.le_refl _) (hI _ _ _ _ _ hi (Nat.le_succ _) hl rfl) ((World.putObj_heap_other (by omega)).trans hd)⟩
end Go.Proofs.YtbncfknjgldcbaaGreat
/- slices.Backward over frames: it hands on each frame, the last one first. -/
namespace Go.Proofs.YtbncfknjgldcbaaGreat
open Go.RowKit Go.Joins
attribute [local go_sem] Oper.semAt_some

def encS (p : Nat × Sn) : Array Value := #[.int .i64 p.1, .agg #[.int .i64 p.2.t, .int .i64 p.2.v, .int .i64 p.2.s]]
/-- The frames below k, the last one first. -/
def backL (l : List Sn) : Nat → List (Nat × Sn)
  | 0 => []
  | k + 1 => (k, l.getD k ⟨0, 0, 0⟩) :: backL l k
/-- What the iterator reads. -/
structure BackR (Bs : Nat) (A : Option Addr) (cap : Nat) (l : List Sn) (W : World) : Prop where
  box : BoxN W Bs 61 #[.slice A l.length cap]
  row : isS A l W
theorem backw_any (A : Option Addr) (la ca : Nat) (w : World) :
    Calls Tryz.prog 120 #[.slice A la ca] w fun e w' => e = .returned (.func (.func 143) #[] #[.pointer (some ⟨w.heap.size, 0, none⟩)]) ∧ w' = w.alloc (.cells #[.slice A la ca] 61) := by
  go_enter Tryz.func120, Tryz.ntmps120
  go_wp2
  go_ret
  exact ⟨rfl, rfl⟩

set_option maxRecDepth 100000 in
set_option maxHeartbeats 2000000 in
theorem backw1_in (n : Nat) (hn : 1 ≤ n) (lb Bs : Nat) (A : Option Addr) (cap : Nat) (l : List Sn) (hlen : l.length ≤ 4000) (J : List (Nat × Sn) → World → Prop) (W : World)
    (hR : ∀ pre W1, J pre W1 → BackR Bs A cap l W1)
    (hY : ∀ pre x W1, J pre W1 → pre ++ [x] <+: backL l l.length → YieldAt Fence.wide (n - 1) Tryz.prog lb (encS x) W1 fun e W' => e = .returned (.bool true) ∧ J (pre ++ [x]) W')
    (h0 : J [] W) :
    CallsIn Fence.wide n Tryz.prog 143 #[.func (.yield lb) #[] #[], .pointer (some ⟨Bs, 0, none⟩)] W fun e W' => (∃ v, e = .returned v) ∧ J (backL l l.length) W' := by
  have hro : Fence.wide.round = none := rfl
  have HR := Lib.hid hR
  have HY := Lib.hid hY
  have H0 := Lib.hid h0
  have cB : W.cell? ⟨Bs, 0, none⟩ = some (.slice A l.length cap) := (hR _ _ h0).box.cell 0
  clear hR hY h0
  refine callsIn_of_wp Tryz.func143 rfl trivial ?_ hro
  simp only [Tryz.ntmps143, List.size_toArray, List.length_cons, List.length_nil, Nat.reduceAdd, Nat.reduceSub, Array.replicate_succ, Array.replicate_zero, List.push_toArray, List.append_toArray, List.nil_append, List.cons_append]
  gi_wp2_with fail
  clear cB
  gi_loopw [3] (fun i wr => ∃ (k : Nat) (pre : List (Nat × Sn)), k ≤ l.length ∧ i = .int .i64 ((k : Int) - 1) ∧ J pre wr ∧ Hid (pre ++ backL l k = backL l l.length))
    (fun i _ => (intOf i + 1).toNat)
  case atStart => exact ⟨l.length, [], Nat.le_refl _, rfl, H0.out, rfl⟩
  case round =>
    obtain ⟨k, pre, hk, rfl, hj, hp⟩ := hrel
    cases k with
    | zero =>
      have hj' : Hid (J (backL l l.length) wr) := by unfold Hid; rw [← hp.out]; simpa [backL] using hj
      rw [show ((0 : Nat) : Int) - 1 = -1 from rfl]
      clear hp hj
      gi_wp2_with fail
      go_end0
      exact ⟨⟨_, rfl⟩, hj'.out⟩
    | succ k =>
      rw [show ((k + 1 : Nat) : Int) - 1 = (k : Int) by omega]
      have hR2 := HR.out _ _ hj
      have hx : l[k]? = some (l[k]'(by omega)) := List.getElem?_eq_getElem _
      obtain ⟨x, hxe⟩ : ∃ x, l[k]'(by omega) = x := ⟨_, rfl⟩
      rw [hxe] at hx
      have hgx : l.getD k ⟨0, 0, 0⟩ = x := by rw [List.getD_eq_getElem?_getD, hx]; rfl
      have hpp : pre ++ [(k, x)] ++ backL l k = backL l l.length := by rw [← hp.out, backL, hgx]; simp
      obtain ⟨b, off, rfl, hb, hr⟩ := hR2.row (by intro h; subst h; simp at hx)
      obtain ⟨c0, c1, c2⟩ := hr k x hx
      have cB : wr.cell? ⟨Bs, 0, none⟩ = some (.slice (some ⟨b, off, none⟩) l.length cap) := hR2.box.cell 0
      obtain ⟨fn, tmps, assign, body, hyy, hR3⟩ := HY.out pre (k, x) wr hj ⟨backL l k, hpp⟩
      unfold encS at hyy
      have HR3 := Lib.hid hR3
      have Hpp := Lib.hid hpp
      have hkl : k < l.length := by omega
      have hd : decide ((0 : Int) ≤ k) = true := by simp
      clear hR3 hpp hgx hxe hx hr hR2 hp hj
      simp only [] at hyy
      gi_wp2_with fail
      refine HR3.out.mono ?_
      rintro e W3 ⟨rfl, hj3⟩
      clear hyy HR3 c0 c1 c2 cB
      gi_wp2_with fail
      go_roundw
      case rel => exact ⟨k, pre ++ [(k, x)], by omega, rfl, hj3, Hpp.out⟩
      case measure => simp [intOf] <;> omega

theorem backw_hands (Bs : Nat) (A : Option Addr) (cap : Nat) (l : List Sn) (hlen : l.length ≤ 4000) (n : Nat) (hn : 1 ≤ n) (w : World) :
    HandsR Fence.wide n Tryz.prog 143 #[.pointer (some ⟨Bs, 0, none⟩)] encS (BackR Bs A cap l) (backL l l.length) w := fun lb J W _ hR hY h0 =>
  backw1_in n hn lb Bs A cap l hlen J W hR hY h0
end Go.Proofs.YtbncfknjgldcbaaGreat
/- calculus.gaps where no difference is above the least one: nothing is handed on. -/
namespace Go.Proofs.YtbncfknjgldcbaaGreat
open Go.RowKit Go.Joins
attribute [local go_sem] Oper.semAt_some

/-- No difference of times is above h. -/
def NoGap (l : List Sn) (h : Int) : Prop := ∀ (k : Nat) (x y : Sn), l[k]? = some x → l[0]? = some y → x.t - y.t ≤ h
theorem backL_mem {l : List Sn} : ∀ {n : Nat} {p : Nat × Sn}, n ≤ l.length → p ∈ backL l n → l[p.1]? = some p.2
  | 0, _, _, h => by cases h
  | n + 1, p, hn, h => by
    rw [backL] at h
    rcases List.mem_cons.1 h with rfl | h
    · show l[n]? = some (l.getD n ⟨0, 0, 0⟩)
      rw [List.getD_eq_getElem?_getD, List.getElem?_eq_getElem (by omega)]; rfl
    · exact backL_mem (by omega) h

set_option maxRecDepth 100000 in
set_option maxHeartbeats 2000000 in
theorem gaps1_in (n : Nat) (hn : 4 ≤ n) (lb b1 b2 : Nat) (A : Option Addr) (cap : Nat) (l : List Sn) (hlen : l.length ≤ 4000) (hok : frOk 0 l = true) (h : Int) (hg : NoGap l h) (J : World → Prop) (W : World)
    (hJ : ∀ A C, J A → Ins W.heap.size A C → J C) (h1 : BoxN W b1 61 #[.slice A l.length cap]) (h2 : BoxN W b2 3 #[.int .i64 h]) (hS : isS A l W) (h0 : J W) :
    CallsIn Fence.wide n Tryz.prog 119 #[.func (.yield lb) #[] #[], .pointer (some ⟨b1, 0, none⟩), .pointer (some ⟨b2, 0, none⟩)] W fun e W' => (∃ v, e = .returned v) ∧ J W' := by
  have hro : Fence.wide.round = none := rfl
  have HJ := Lib.hid hJ
  have H0 := Lib.hid h0
  have hb1 := h1.lt
  have hb2 := h2.lt
  clear hJ h0
  refine callsIn_of_wp_marks Tryz.func119 rfl trivial ?_ hro
  simp only [Tryz.ntmps119, List.size_toArray, List.length_cons, List.length_nil, Nat.reduceAdd, Nat.reduceSub, Array.replicate_succ, Array.replicate_zero, List.push_toArray, List.append_toArray, List.nil_append, List.cons_append]
  have c1 : W.cell? ⟨b1, 0, none⟩ = some (.slice A l.length cap) := h1.cell 0
  have hB1 : Below W.heap.size W (((W.alloc (.cells #[.func (.yield lb) #[] #[]] 150)).alloc (.map #[] 0)).alloc (.cells #[.map (some (W.heap.size + 1))] 151)) :=
    (((Below.refl _ W).alloc (Nat.le_refl _) _).alloc (by simp) _).alloc (by simp; omega) _
  have c1a : ((W.alloc (.cells #[.func (.yield lb) #[] #[]] 150)).alloc (.map #[] 0)).cell? ⟨b1, 0, none⟩ = some (.slice A l.length cap) :=
    (Below.cell (p := ⟨b1, 0, none⟩) (((Below.refl _ W).alloc (Nat.le_refl _) (.cells #[.func (.yield lb) #[] #[]] 150)).alloc (by simp) (.map #[] 0)) hb1).trans c1
  have c1b : (((W.alloc (.cells #[.func (.yield lb) #[] #[]] 150)).alloc (.map #[] 0)).alloc (.cells #[.map (some (W.heap.size + 1))] 151)).cell? ⟨b1, 0, none⟩ = some (.slice A l.length cap) :=
    (hB1.cell (p := ⟨b1, 0, none⟩) hb1).trans c1
  have hmm := fun w : World => run_makeMap (P := Tryz.prog) 151 w
  have hzm : ∀ w : World, (zeroValue 151).run Tryz.prog w = .ok (.map none) w := fun _ => by kernel_rfl
  gi_wp2_with fail
  refine ⟨trivial, ?_⟩
  clear hmm hzm c1a c1b
  generalize ((W.alloc (.cells #[.func (.yield lb) #[] #[]] 150)).alloc (.map #[] 0)).alloc (.cells #[.map (some (W.heap.size + 1))] 151) = W1 at hB1 ⊢
  refine ⟨fun _ => by omega, ?_⟩
  (with_reducible refine (callsIn_wide.2 (backw_any _ _ _ _)).mono ?_); rintro e w2 ⟨rfl, rfl⟩
  have hBs := BoxN.new W1 61 #[.slice A l.length cap]
  have hB2 := hB1.alloc hB1.size (.cells #[.slice A l.length cap] 61)
  gi_wp2_with fail
  have hBR : BackR W1.heap.size A cap l (W1.alloc (.cells #[.slice A l.length cap] 61)) := ⟨hBs, cl_isS A l W _ hS hB2⟩
  have hk1 := h1.below hB2 hb1
  have hk2 := h2.below hB2 hb2
  have hbs := hBs.lt
  generalize W1.heap.size = Bs at hBR hbs ⊢
  generalize W1.alloc (.cells #[.slice A l.length cap] 61) = W2 at hBR hB2 hk1 hk2 hbs ⊢
  clear hB1 hBs h1 h2
  refine wpIn_handsR hro (by omega) (gf := 143) (lb := #[.pointer (some ⟨Bs, 0, none⟩)]) rfl trivial (enters_of Tryz.func143 (by kernel_rfl) rfl)
    (backw_hands Bs A cap l hlen (n - 1) (by omega) W2) (Below.refl _ _) (fun _ => rfl)
    (fun _ V => Below W2.heap.size W2 V)
    (fun s V k o o' hv hk _ _ => hv.trans ⟨rfl, rfl, rfl, by simp, fun j hj => World.putObj_heap_other (by omega)⟩)
    (fun s V hv => ⟨hBR.box.below hv hbs, cl_isS A l W2 _ hBR.row hv⟩)
    (fun o o' => ((Below.refl _ _).alloc (Nat.le_refl _) o).alloc (by simp) o')
    (fun x a' V => ∃ B6, W2.heap.size ≤ B6 ∧ BoxN V B6 85 #[.int .i64 x.2.t, .int .i64 x.2.v, .int .i64 x.2.s] ∧ a' = { tmps := #[.func (.yield lb) #[] #[], .pointer (some ⟨b1, 0, none⟩), .pointer (some ⟨b2, 0, none⟩), .pointer (some ⟨W.heap.size, 0, none⟩), .pointer (some ⟨W.heap.size + 1 + 1, 0, none⟩), undef, .pointer (some ⟨B6, 0, none⟩), undef, undef, undef, .map (some (W.heap.size + 1)), .slice A l.length cap, .func (.func 143) #[] #[.pointer (some ⟨Bs, 0, none⟩)], .int .i64 x.1, .agg #[.int .i64 x.2.t, .int .i64 x.2.v, .int .i64 x.2.s], undef, undef, undef, undef, undef, undef, undef, undef, undef, undef, undef, undef, undef, undef, undef, undef, undef, undef, undef, undef, undef, undef, undef, undef, undef, undef, undef], defers := [] })
    (fun x a' V k r r' ⟨B6, e1, e2, e3⟩ _ hr => ⟨B6, e1, (World.putObj_heap_other (by rintro rfl; rw [show V.heap[_]? = _ from e2] at hr; cases hr)).trans e2, e3⟩)
    ?assign ?body ?done
  case assign =>
    rintro lr pre x V K hv hz hK
    unfold encS
    have hzs : ∀ w : World, (zeroValue 85).run Tryz.prog w = .ok (.agg #[.int .i64 0, .int .i64 0, .int .i64 0]) w := fun _ => by kernel_rfl
    have hK' := Lib.hid hK
    clear hK
    gi_wp2_with fail
    exact hK'.out _ _ ((KeepsOthers.alloc _ _).from _) (hv.alloc hv.size _) ⟨V.heap.size, hz, BoxN.new V _ _, rfl⟩
  case body =>
    rintro lr pre x a' V hz hv ⟨B6, hB6, b6, rfl⟩ hpre
    have hx : l[x.1]? = some x.2 := backL_mem (Nat.le_refl _) (by
      obtain ⟨t, ht⟩ := hpre
      rw [← ht]; simp)
    have hpos : 0 < l.length := by
      have := (List.getElem?_eq_some_iff.1 hx).1
      omega
    have hy : l[0]? = some (l[0]'hpos) := List.getElem?_eq_getElem _
    obtain ⟨y, hye⟩ : ∃ y, l[0]'hpos = y := ⟨_, rfl⟩
    rw [hye] at hy
    have hgap := hg x.1 x.2 y hx hy
    obtain ⟨bx1, bx2, -, -⟩ := frOk_mem hok (Int.le_refl 0) x.2 (List.mem_of_getElem? hx)
    obtain ⟨by1, by2, -, -⟩ := frOk_mem hok (Int.le_refl 0) y (List.mem_of_getElem? hy)
    obtain ⟨b, off, rfl, hb, hr⟩ := (cl_isS A l W2 _ hBR.row hv) (by intro e; rw [e] at hpos; simp at hpos)
    obtain ⟨y0, y1, y2⟩ := hr 0 y hy
    simp only [Nat.zero_mul, Nat.add_zero] at y0 y1 y2
    have z6 : V.cell? ⟨B6, 0, none⟩ = some (.int .i64 x.2.t) := b6.cell 0
    have l6 := b6.lt
    have k1 : V.cell? ⟨b1, 0, none⟩ = some (.slice (some ⟨b, off, none⟩) l.length cap) := (hk1.below hv hk1.lt).cell 0
    have k2 : V.cell? ⟨b2, 0, none⟩ = some (.int .i64 h) := (hk2.below hv hk2.lt).cell 0
    have l2 := (hk2.below hv hk2.lt).lt
    have hd : decide ((0 : Int) < l.length) = true := by simp; omega
    have hd2 : decide (x.2.t - y.t ≤ h) = true := by simp; omega
    have hfin : Hid (KeepsFrom W2.heap.size V (V.alloc (.cells #[.int .i64 y.t, .int .i64 y.v, .int .i64 y.s] 85)) ∧ Below W2.heap.size W2 (V.alloc (.cells #[.int .i64 y.t, .int .i64 y.v, .int .i64 y.s] 85))) := ⟨(KeepsOthers.alloc _ _).from _, hv.alloc hv.size _⟩
    have hzs : ∀ w : World, (zeroValue 85).run Tryz.prog w = .ok (.agg #[.int .i64 0, .int .i64 0, .int .i64 0]) w := fun _ => by kernel_rfl
    clear hx hpre hye hr hgap b6 hv hz hk1 hk2 hBR
    gi_wp2_with fail
    gi_loopw [17] (fun i wr => i = .int .i64 0 ∧ wr = V) (fun i _ => 16 - (intOf i).toNat)
    case atStart => exact ⟨rfl, rfl⟩
    case round =>
      obtain ⟨rfl, rfl⟩ := hrel
      gi_wp2_with fail
      exact hfin.out
  case done =>
    rintro D V hD hv hK
    have hj : Hid (∀ o, J (V.putObj D o)) := fun o => HJ.out _ _ H0.out (Ins.below ((hB2.trans (hv.mono hB2.size)).trans ⟨rfl, rfl, rfl, by simp, fun j hj => World.putObj_heap_other (by have := hB2.size; omega)⟩) (Nat.le_refl _))
    gi_wp2_with fail
    refine ⟨by simp, .inl ⟨_, _, rfl, run_takeDeferred hK, ?_⟩⟩
    exact ⟨_, results_none rfl _ _ _, ⟨_, rfl⟩, hj.out _⟩

theorem gaps_hands (b1 b2 : Nat) (A : Option Addr) (cap : Nat) (l : List Sn) (hlen : l.length ≤ 4000) (hok : frOk 0 l = true) (h : Int) (hg : NoGap l h) (n : Nat) (hn : 4 ≤ n) (w : World)
    (h1 : BoxN w b1 61 #[.slice A l.length cap]) (h2 : BoxN w b2 3 #[.int .i64 h]) (hS : isS A l w) (enc : Int → Array Value) :
    Hands Fence.wide n Tryz.prog 119 #[.pointer (some ⟨b1, 0, none⟩), .pointer (some ⟨b2, 0, none⟩)] enc (fun _ _ => True) [] w := fun lb J W hW hJ _ h0 =>
  gaps1_in n hn lb b1 b2 A cap l hlen hok h hg (J []) W (hJ []) (h1.below hW h1.lt) (h2.below hW h2.lt) (cl_isS A l w _ hS hW) h0
end Go.Proofs.YtbncfknjgldcbaaGreat
/- calculus.Conforms of valid arguments, where no difference of times is above the harmless one. -/
namespace Go.Proofs.YtbncfknjgldcbaaGreat
open Go.RowKit Go.Joins Go.Shelf Go.Sort Num
attribute [local go_sem] Oper.semAt_some

theorem frB_ok {l : List Sn} (hlen : l.length ≤ 4000) (hok : frOk 0 l = true) : frB l = true := by unfold frB; rw [hok, decide_eq_true hlen]; rfl
theorem sn_bd {l : List Sn} (hok : frOk 0 l = true) (hv : ∀ x ∈ l, -9223372036854775808 ≤ x.v ∧ x.v < 9223372036854775808) : ∀ x ∈ l, x.bd64 := fun x hx => by
  obtain ⟨h1, h2, h3, h4⟩ := frOk_mem hok (Int.le_refl 0) x hx
  obtain ⟨h5, h6⟩ := hv x hx
  constructor <;> omega

set_option maxRecDepth 100000 in
set_option maxHeartbeats 2000000 in
theorem conf_ok (A B : Option Addr) (ca cb : Nat) (c : List Buck) (hl1 : 1 ≤ c.length) (hl2 : c.length ≤ 32) (l : List Sn) (hbl : ∀ x ∈ l, x.bd64) (hlen : l.length ≤ 4000) (hok : frOk 0 l = true) (hg : NoGap l (harmL 1073741824 c)) (w : World) (hC : isC A ca c w) (hS : isS B l w) :
    CallsIn Fence.wide 9 Tryz.prog 34 #[.slice A c.length ca, .slice B l.length cb] w fun e w' => e = .returned (.tuple #[.bool (!(c.any fun x => !holdsB x l)), .int .i64 0]) ∧ Below w.heap.size w w' := by
  have hro : Fence.wide.round = none := rfl
  have hB0 := ((((Below.refl w.heap.size w).alloc (Nat.le_refl _) (.cells #[.slice A c.length ca] 23)).alloc (by simp) (.cells #[.slice B l.length cb] 61)).alloc (by simp; omega) (.cells #[.bool false] 4)).alloc (by simp; omega) (.cells #[.int .i64 0] 27)
  have HV := valid_ok hl1 hl2 (cl_isC A ca c w _ hC hB0)
  have HF : Hid (∀ W : World, Below w.heap.size w W → Calls Tryz.prog 83 #[.slice B l.length cb] W fun e w' => e = .returned (.bool true) ∧ Below W.heap.size W w') := fun W hW => (frames_any B cb l (fun _ => hbl) W (cl_isS B l w W hS hW)).mono fun _ _ h => by rw [frB_ok hlen hok] at h; exact h
  have HH : Hid (∀ W : World, Below w.heap.size w W → _) := fun W hW => harm_any A ca c (by omega) W (cl_isC A ca c w W hC hW)
  have b4 := (BoxN.new ((w.alloc (.cells #[.slice A c.length ca] 23)).alloc (.cells #[.slice B l.length cb] 61)) 4 #[.bool false]).alloc (.cells #[.int .i64 0] 27)
  have b5 := BoxN.new (((w.alloc (.cells #[.slice A c.length ca] 23)).alloc (.cells #[.slice B l.length cb] 61)).alloc (.cells #[.bool false] 4)) 27 #[.int .i64 0]
  have b3 := ((BoxN.new (w.alloc (.cells #[.slice A c.length ca] 23)) 61 #[.slice B l.length cb]).alloc (.cells #[.bool false] 4)).alloc (.cells #[.int .i64 0] 27)
  have b2 := (((BoxN.new w 23 #[.slice A c.length ca]).alloc (.cells #[.slice B l.length cb] 61)).alloc (.cells #[.bool false] 4)).alloc (.cells #[.int .i64 0] 27)
  rw [World.size_alloc, World.size_alloc] at b4
  rw [World.size_alloc, World.size_alloc, World.size_alloc] at b5
  rw [World.size_alloc] at b3
  obtain ⟨h, hh⟩ : ∃ h, harmL 1073741824 c = h := ⟨_, rfl⟩
  rw [hh] at HH hg
  have HSP : Hid (∀ W : World, Below w.heap.size w W → BoxN W (w.heap.size + 1) 61 #[.slice B l.length cb] → _) := fun W hW hb => spills_any A B ca cb c (by omega) l hlen hok (w.heap.size + 1) W (cl_isC A ca c w W hC hW) hb (cl_isS B l w W hS hW)
  obtain ⟨z, hz⟩ : ∃ z, (c.any fun x => !holdsB x l) = z := ⟨_, rfl⟩
  rw [hz] at HSP ⊢
  have HG : Hid (∀ (b1 b2 : Nat) (W : World), BoxN W b1 61 #[.slice B l.length cb] → BoxN W b2 3 #[.int .i64 h] → Below w.heap.size w W → Hands Fence.wide 8 Tryz.prog 119 #[.pointer (some ⟨b1, 0, none⟩), .pointer (some ⟨b2, 0, none⟩)] (fun x : Int => #[.int .i64 x]) (fun _ _ => True) [] W) :=
    fun b1 b2 W h1 h2 hW => gaps_hands b1 b2 B cb l hlen hok h hg 8 (by decide) W h1 h2 (cl_isS B l w W hS hW) _
  have HGB := Lib.hid (fun W : World => gaps_box B l.length cb h W)
  have c2 := b2.cell 0
  replace HV := Lib.hid HV
  clear hC hS hbl hok hg hh hl1 hl2
  refine callsIn_of_wp_marks Tryz.func34 rfl trivial ?_ hro
  simp only [Tryz.ntmps34, List.size_toArray, List.length_cons, List.length_nil, Nat.reduceAdd, Nat.reduceSub, Array.replicate_succ, Array.replicate_zero, List.push_toArray, List.append_toArray, List.nil_append, List.cons_append]
  gi_wp2_with fail
  refine ⟨trivial, ?_⟩
  (with_reducible refine (callsIn_wide.2 HV.out).mono ?_); rintro e w1 ⟨rfl, hb1⟩
  have hB1 := hB0.trans (hb1.mono hB0.size)
  have d2 := b2.below hb1 b2.lt
  have d3 := b3.below hb1 b3.lt
  have d4 := b4.below hb1 b4.lt
  have d5 := b5.below hb1 b5.lt
  have HFx := Lib.hid (HF.out w1 hB1)
  clear c2 hb1 b2 b3 b4 b5 hB0 HF HV
  have c3 := d3.cell 0
  gi_wp2_with fail
  refine ⟨trivial, ?_⟩
  (with_reducible refine (callsIn_wide.2 HFx.out).mono ?_); rintro e w2 ⟨rfl, hb2⟩
  have hB2 := hB1.trans (hb2.mono hB1.size)
  have e2 := d2.below hb2 d2.lt
  have e3 := d3.below hb2 d3.lt
  have e4 := d4.below hb2 d4.lt
  have e5 := d5.below hb2 d5.lt
  have c2 := e2.cell 0
  clear c3 d2 d3 d4 d5 hb2 hB1 HFx w1
  have c3 := e3.cell 0
  have k2 := e2.lt
  have k3 := e3.lt
  have hz2 := hB2.size
  gi_wp2_with fail
  refine wpIn_wide.2 ?_
  replace HH : Hid (∀ W : World, Below w2.heap.size w2 W → _) := fun W hW => HH.out W (hB2.trans (hW.mono hz2))
  have E2 := Lib.hid e2
  have E3 := Lib.hid e3
  have E4 := Lib.hid e4
  have E5 := Lib.hid e5
  have HB2 := Lib.hid hB2
  clear e2 e3 e4 e5 hB2
  go_region_with (first
    | (go_at_call 85; (with_reducible refine (HH.out _ (by repeat' (first | (with_reducible exact Below.refl _ _) | (with_reducible refine Below.drew ?_) | (with_reducible refine below_drewN ?_ _)))).mono ?_); rintro e v1 ⟨rfl, hb⟩; obtain ⟨hcp, hfp⟩ := bcell hb; have hzp := hb.size; (try simp only [World.size_drew] at hcp); (try simp only [World.size_drew] at hfp); (try simp only [World.size_drew] at hzp); (try have hk1 : w.heap.size + 1 < v1.heap.size := by omega); have hbq : Below w2.heap.size w2 v1 := (by repeat' (first | (with_reducible exact Below.refl _ _) | (with_reducible refine Below.drew ?_) | (with_reducible refine below_drewN ?_ _) | (with_reducible refine Below.trans ?_ (hb.mono ?_)) | omega | (simp; done) | (simp; omega))))
    | (go_at_call 84; (with_reducible refine (HGB.out _).mono ?_); rintro e w3 ⟨b1, b2, rfl, hx1, hx2, hb3⟩; have hbr : Below w2.heap.size w2 w3 := (by repeat' (first | (with_reducible exact hbq) | (with_reducible refine Below.drew ?_) | (with_reducible refine below_drewN ?_ _) | (with_reducible refine Below.trans ?_ (hb3.mono ?_)) | omega | (simp; done) | (simp; omega)))))
  all_goals
    have hbs := hbr.size
    have q2 := E2.out.below hbr (by omega)
    have q3 := E3.out.below hbr (by omega)
    have q4 := E4.out.below hbr E4.out.lt
    have q5 := E5.out.below hbr E5.out.lt
    have hBr := HB2.out.trans (hbr.mono hz2)
    have hzr := hBr.size
    have hl5 := q5.lt
    have HGx := HG.out b1 b2 w3 hx1 hx2 hBr
    clear hx1 hx2 hbr hb hb3 hbq hcp hfp HG HGB HH E2 E3 E4 E5 HB2
    gi_wp2_with fail
    refine wpIn_hands hro (by decide) (gf := 119) (lb := #[.pointer (some ⟨b1, 0, none⟩), .pointer (some ⟨b2, 0, none⟩)]) rfl trivial (enters_of Tryz.func119 (by kernel_rfl) rfl)
      HGx (fun _ _ => trivial) (fun _ _ _ _ _ _ _ => trivial) (Below.refl _ _) (fun _ => rfl)
      (fun _ V => Below w3.heap.size w3 V) (fun _ _ _ h k => h.trans k) (Below.refl _ _) (fun _ _ _ => True) (fun _ _ _ _ _ _ _ _ _ => trivial)
      ?assign ?body ?done
    case assign =>
      rintro lr pre x W K hv hzW hK
      gi_wp2_with fail
      exact hK _ _ (KeepsFrom.refl _ _) trivial hv trivial
    case body =>
      rintro lr pre x a' W hzW hv hax ⟨t, ht⟩
      simp at ht
    case done =>
      rintro D V hD hv hK
      have hzv := hv.size
      have p2 := (q2.below hv (by omega)).cell 0
      have r3 := q3.below hv q3.lt
      have p3 := r3.cell 0
      have l3 := r3.lt
      have r4 := q4.below hv q4.lt
      have r5 := q5.below hv q5.lt
      have hBv := hBr.trans (hv.mono hzr)
      have hDV : D < V.heap.size := (Array.getElem?_eq_some_iff.1 hK).1
      have HSx := Lib.hid (HSP.out V hBv r3)
      clear q2 q3 q4 q5 hv
      gi_wp2_with fail
      refine ⟨trivial, ?_⟩
      (with_reducible refine (callsIn_wide.2 HSx.out).mono ?_); rintro e v5 ⟨rfl, hb5⟩
      have t4 := r4.below hb5 r4.lt
      have t5 := r5.below hb5 r5.lt
      have hB5 := hBv.trans (hb5.mono (by omega))
      have hK5 : v5.heap[D]? = some (.deferred (some [])) := (hb5.block D hDV).trans hK
      have c4 := t4.cell 0
      have c5 := t5.cell 0
      have f4 := t4.frozen 0
      have f5 := t5.frozen 0
      have k4 := t4.lt
      have k5 := t5.lt
      have hKs : ((v5.setCell ⟨w.heap.size + 1 + 1, 0, none⟩ (.bool !z)).setCell ⟨w.heap.size + 1 + 1 + 1, 0, none⟩ (.int .i64 0)).heap[D]? = some (.deferred (some [])) :=
        (Below.heap_setCell _ _ _ D (by simp; omega)).trans ((Below.heap_setCell _ _ _ D (by simp; omega)).trans hK5)
      obtain ⟨y4, y5⟩ := res2 (.bool !z) (.int .i64 0) t4 t5 (by omega)
      have s4 := Lib.hid ((cell_same (World.putObj_heap_other (w := (v5.setCell ⟨w.heap.size + 1 + 1, 0, none⟩ (.bool !z)).setCell ⟨w.heap.size + 1 + 1 + 1, 0, none⟩ (.int .i64 0)) (o := .deferred none) (show w.heap.size + 1 + 1 ≠ D by omega)) 0).trans (y4.cell 0))
      have s5 := Lib.hid ((cell_same (World.putObj_heap_other (w := (v5.setCell ⟨w.heap.size + 1 + 1, 0, none⟩ (.bool !z)).setCell ⟨w.heap.size + 1 + 1 + 1, 0, none⟩ (.int .i64 0)) (o := .deferred none) (show w.heap.size + 1 + 1 + 1 ≠ D by omega)) 0).trans (y5.cell 0))
      have HKs := Lib.hid hKs
      have HB5 := Lib.hid hB5
      clear hKs y4 y5 hK5 hb5 t4 t5 r3 r4 r5 p2 p3 hB5
      gi_wp2
      refine ⟨by simp, .inl ⟨_, _, rfl, run_takeDeferred HKs.out, ?_⟩⟩
      refine ⟨.tuple #[.bool !z, .int .i64 0], by simp [results, Tryz.f34, go_sem, s4.out, s5.out], rfl, ?_⟩
      exact ((HB5.out.setCell (p := ⟨w.heap.size + 1 + 1, 0, none⟩) (by simp; omega) _).setCell (p := ⟨w.heap.size + 1 + 1 + 1, 0, none⟩) (by simp; omega) _).trans (belowK_b (w := w) (Nat.le_refl _) _ D _ _ (by omega) HKs.out rfl rfl)
end Go.Proofs.YtbncfknjgldcbaaGreat
