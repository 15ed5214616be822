/- Points as a list of numbers: slices.SortFunc and slices.Compact at a slice of the call's own. -/
import Derived.Test.YtaanhddgmiggfaaGreatTwos
import Derived.Lib.SliceRun
namespace Go.Proofs.YtaanhddgmiggfaaGreat
open Go.RowKit Go.Joins Go.Shelf Go.Sort Num

structure Pt where
  q : Rat
  h : Fit q
deriving DecidableEq
instance : Inhabited Pt := ⟨⟨0, by constructor <;> decide⟩⟩
theorem Pt.ext' {x y : Pt} (h : x.q = y.q) : x = y := by cases x; cases y; simp_all
def Pt.cells (x : Pt) : List Value := [.int .i64 x.q.num, .int .i64 x.q.den]
def Pt.ord (x y : Pt) : Int := cmpQ x.q y.q
/-- The cells of points. -/
def ptsOf (c : List Pt) : List Value := c.flatMap Pt.cells
theorem ptsOf_snoc (c : List Pt) (x : Pt) : ptsOf (c ++ [x]) = ptsOf c ++ x.cells := by simp [ptsOf]
theorem ptsOf_length (c : List Pt) : (ptsOf c).length = c.length * 2 := by
  unfold ptsOf
  induction c with
  | nil => rfl
  | cons x c ih => rw [List.flatMap_cons, List.length_append, ih, List.length_cons, Nat.succ_mul]; simp [Pt.cells]; omega
theorem one_pt (x : Pt) : ∀ u ∈ x.cells, u.oneCell' = true := by
  intro u hu
  simp only [Pt.cells, List.mem_cons, List.not_mem_nil, or_false] at hu
  rcases hu with rfl | rfl <;> rfl
theorem infoR : (Tryz.prog.info? 25).map (fun i => (i.zero, i.size, i.bytes)) = some (some (.agg #[.int .i64 0, .int .i64 0]), 2, 16) := by kernel_rfl
/-- Block b holds the points c from off on. -/
def Row2 (W : World) (b off : Nat) (c : List Pt) : Prop := ∀ j x, c[j]? = some x → W.cell? ⟨b, off + j * 2, none⟩ = some (.int .i64 x.q.num) ∧ W.cell? ⟨b, off + j * 2 + 1, none⟩ = some (.int .i64 x.q.den)
theorem Row2.below {B : Nat} {W W' : World} {b off : Nat} {c : List Pt} (h : Row2 W b off c) (hk : Below B W W') (hb : b < B) : Row2 W' b off c := fun j x hx => by
  obtain ⟨h0, h1⟩ := h j x hx
  exact ⟨(hk.cell (p := ⟨b, _, none⟩) hb).trans h0, (hk.cell (p := ⟨b, _, none⟩) hb).trans h1⟩
theorem flat_pts (c : List Pt) : ∀ (j i : Nat) (x : Pt), c[j]? = some x → i < 2 → (ptsOf c)[j * 2 + i]? = x.cells[i]? := by
  induction c with
  | nil => intro j i x h; simp at h
  | cons y c ih =>
    intro j i x h hi
    have e : ptsOf (y :: c) = y.cells ++ ptsOf c := rfl
    rw [e]
    cases j with
    | zero =>
      simp only [List.getElem?_cons_zero, Option.some.injEq] at h
      subst h
      rw [List.getElem?_append_left (by simp [Pt.cells]; omega)]
      simp
    | succ j =>
      rw [List.getElem?_append_right (by simp [Pt.cells]; omega), ← ih j i x (by simpa using h) hi]
      congr 1
      simp [Pt.cells]; omega
theorem flatP_cells (c : List Pt) (t : Nat) (ht : t < c.length * 2) : (ptsOf c)[t]? = some (flatK Pt.cells 2 c.toArray)[t]! := by
  rw [get_flatK _ _ _ _ (by simpa using ht)]
  have hj : t / 2 < c.length := by omega
  have := flat_pts c (t / 2) (t % 2) c[t / 2] (List.getElem?_eq_getElem hj) (Nat.mod_lt _ (by decide))
  rw [show t / 2 * 2 + t % 2 = t by omega] at this
  rw [this]
  have e1 : c.toArray[t / 2]! = c[t / 2] := by simp [getElem!_pos, hj]
  rw [e1]
  have hl : t % 2 < (c[t / 2]).cells.length := by simp [Pt.cells]; omega
  rw [List.getElem?_eq_getElem hl, getElem!_pos c[t / 2].cells (t % 2) hl]
theorem own_pts {w : World} {base g cap : Nat} {c : List Pt} (h : w.ownsRow base 25 2 (.slice (some ⟨g, 0, none⟩) c.length cap) c.length (ptsOf c)) : Row2 w g 0 c := fun j x hx => by
  have hj : j < c.length := (List.getElem?_eq_some_iff.1 hx).1
  have f := fun i (hi : i < 2) => (h.cellAt (j * 2 + i) (by omega)).trans (flat_pts c j i x hx hi)
  rw [Nat.zero_add]
  exact ⟨f 0 (by decide), f 1 (by decide)⟩

theorem ptlt_iff {x y : Pt} : ltOf Pt.ord x y = true ↔ x.q < y.q := by unfold ltOf Pt.ord; rw [decide_eq_true_iff, cmpQ_neg]
theorem ptlt_not {x y : Pt} : ltOf Pt.ord x y = false ↔ ¬ x.q < y.q := by rw [← ptlt_iff, Bool.not_eq_true]
theorem pt_total (x y : Pt) (h1 : ltOf Pt.ord x y = false) (h2 : ltOf Pt.ord y x = false) : x = y :=
  Pt.ext' (Rat.le_antisymm (Rat.not_lt.1 (ptlt_not.1 h2)) (Rat.not_lt.1 (ptlt_not.1 h1)))
theorem pt_swo : SWO (ltOf Pt.ord) where
  irrefl x := ptlt_not.2 Rat.lt_irrefl
  trans x y z h1 h2 := ptlt_iff.2 (lt_tr' (ptlt_iff.1 h1) (ptlt_iff.1 h2))
  ntrans x y z h1 h2 := by
    rw [ptlt_not] at *
    exact Rat.not_lt.2 (Rat.le_trans (Rat.not_lt.1 h2) (Rat.not_lt.1 h1))
/-- The points in their order. -/
def sortP (c : List Pt) : List Pt := c.mergeSort fun x y => !(ltOf Pt.ord) y x
theorem sortP_length (c : List Pt) : (sortP c).length = c.length := List.length_mergeSort _

theorem cmpLaysP (blk off size : Nat) (w : World) : CmpLays Tryz.prog 48 #[] Pt.cells 2 Pt.ord blk off size w :=
  fun _ _ _ _ x y => (cmp_r x.h y.h _).mono fun _ _ ⟨h, k⟩ => ⟨h, k.eq⟩
theorem holdsP_of_own {W : World} {base g cap : Nat} {c : List Pt} (h : W.ownsRow base 25 2 (.slice (some ⟨g, 0, none⟩) c.length cap) c.length (ptsOf c)) : HoldsK Pt.cells 2 W g 0 c.toArray := by
  intro j hj
  rw [size_flatK] at hj
  have hj' : j < c.length * 2 := by simpa using hj
  refine ⟨?_, h.frozenAt _⟩
  rw [Nat.zero_add, h.cellAt j hj', flatP_cells c j hj']
  rfl
theorem gb_refl (w : World) (row : Option Nat) : w.grownBy w row := ⟨rfl, rfl, rfl, Nat.le_refl _, fun _ _ _ => rfl⟩
theorem gb_drewN {w0 w : World} {row : Option Nat} (h : w0.grownBy w row) (n : Nat) : w0.grownBy (w.drewN n) row := ⟨h.os, h.tape, h.output, h.size, h.block⟩
theorem gb_setCell {w0 w : World} {g : Nat} (h : w0.grownBy w (some g)) (i : Nat) (v : Value) : w0.grownBy (w.setCell ⟨g, i, none⟩ v) (some g) :=
  ⟨h.os, h.tape, h.output, by simpa [World.setCell] using h.size, fun k hk hne => (Below.heap_setCell w ⟨g, i, none⟩ v k (fun e => hne (by rw [e]))).trans (h.block k hk hne)⟩
theorem gb_setCells {w0 : World} {g : Nat} : ∀ (l : List Value) (o : Nat) (w : World), w0.grownBy w (some g) → w0.grownBy (w.setCells g o l) (some g)
  | [], _, _, h => h
  | v :: r, o, _, h => gb_setCells r (o + 1) _ (gb_setCell h o v)
theorem gb_sortP {w : World} {g n : Nat} {d : Array Pt} {os : Array Obj} : w.grownBy (sortWorldK Pt.cells 2 w g 0 n d os) (some g) := by
  refine ⟨rfl, rfl, rfl, by simp only [sortWorldK, size_grow, putRowK, putRow, mapBlock, Sort.ahead, Array.size_modify]; omega, fun k hk hne => ?_⟩
  simp only [sortWorldK, putRowK, putRow, mapBlock, Sort.ahead, grow]
  rw [Array.getElem?_append_left (by simp; omega), Array.getElem?_modify, if_neg (fun e => hne (by rw [e]))]
theorem own_sortP {base : Nat} {w : World} {g cap n : Nat} {c d : List Pt} {os : Array Obj} (h : w.ownsRow base 25 2 (.slice (some ⟨g, 0, none⟩) c.length cap) c.length (ptsOf c)) (hl : d.length = c.length) :
    (sortWorldK Pt.cells 2 w g 0 n d.toArray os).ownsRow base 25 2 (.slice (some ⟨g, 0, none⟩) d.length cap) d.length (ptsOf d) := by
  rcases h.2 with ⟨e, _⟩ | ⟨g', cap', cur, e, hb, hg, hnc, hcm, hcs, htake⟩
  · cases e
  · simp only [Value.slice.injEq, Option.some.injEq, Addr.mk.injEq, and_true, true_and] at e
    obtain ⟨rfl, rfl⟩ := e
    have hgl : g < w.heap.size := (Array.getElem?_eq_some_iff.1 hg).1
    refine ⟨ptsOf_length d, .inr ⟨g, cap, putCells id 0 (flatK Pt.cells 2 d.toArray) cur, rfl, hb, ?_, by omega, hcm, by simpa [putCells] using hcs, ?_⟩⟩
    · simp only [sortWorldK, putRowK, putRow, mapBlock, Sort.ahead, grow]
      rw [Array.getElem?_append_left (by simp; omega), Array.getElem?_modify, if_pos rfl, hg]
      rfl
    · apply List.ext_getElem?
      intro t
      rw [List.getElem?_take]
      by_cases ht : t < d.length * 2
      · rw [if_pos ht, flatP_cells d t ht, Array.getElem?_toList]
        have hc : t < cur.size := by
          have : c.length * 2 ≤ cap * 2 := Nat.mul_le_mul_right 2 hnc
          omega
        simp [putCells, Array.getElem?_mapIdx, Array.getElem?_eq_getElem hc, ht]
      · rw [if_neg ht, List.getElem?_eq_none (by rw [ptsOf_length]; omega)]

set_option maxHeartbeats 1000000 in
/-- slices.SortFunc by rat.Cmp at a slice of the call's own. -/
theorem sortFuncP_own (base : Nat) (v : Value) (c : List Pt) (hlen : c.length < 4611686018427387904) (w : World) (ho : w.ownsRow base 25 2 v c.length (ptsOf c)) (hnil : v = .slice none 0 0 ↔ c = []) :
    Calls Tryz.prog 72 #[v, .func (.func 48) #[] #[]] w fun e w' => e = .returned (.tuple #[]) ∧ w.grownBy w' v.ownBlock ∧ w'.ownsRow base 25 2 v (sortP c).length (ptsOf (sortP c)) := by
  by_cases hc : c = []
  · subst hc
    obtain rfl : v = .slice none 0 0 := hnil.2 rfl
    exact (AnyF.slices_SortFunc_none { Tryz.sortR with } none 0 _ w).mono fun e w' ⟨h1, h2⟩ => ⟨h1, by rw [h2]; exact gb_refl _ _, by rw [h2]; simpa [sortP] using ho⟩
  · have hp : 0 < c.length := List.length_pos_iff.2 hc
    obtain ⟨g, cap, rfl, hb, hlt⟩ := ho.form hp
    have eg : ∀ args w, (callFunc 48 args).run Tryz.prog w = .ok (.enter 48 args) w := enters_of Tryz.func48 (by kernel_rfl) rfl
    have hH := holdsP_of_own ho
    have hS := AnyQ.slices_SortFunc_total Tryz.sortR 2 Tryz.isAgg25 Tryz.sizeOf25 Pt.cells (fun _ => rfl) one_pt Pt.ord pt_swo 48 #[] g 0 cap c.toArray w eg (cmpLaysP _ _ _ _) hH hlt (by simpa using hlen) pt_total
    simp only [List.size_toArray] at hS
    change Calls Tryz.prog 72 _ _ _ at hS
    refine hS.mono ?_
    rintro e w' ⟨he, n, os, rfl⟩
    refine ⟨he, gb_sortP, ?_⟩
    have := own_sortP (n := n) (d := sortP c) (os := os) ho (sortP_length c)
    rwa [show (Value.slice (some ⟨g, 0, none⟩) (sortP c).length cap) = .slice (some ⟨g, 0, none⟩) c.length cap by rw [sortP_length]] at this

/-- Points without repetitions one after the other. -/
def stepP (acc : List Pt) (x : Pt) : List Pt := if acc.getLast? = some x then acc else acc ++ [x]
def compL (c : List Pt) : List Pt := c.foldl stepP []
theorem compL_snoc (c : List Pt) (x : Pt) : compL (c ++ [x]) = stepP (compL c) x := by unfold compL; rw [List.foldl_append]; rfl
theorem compL_last (c : List Pt) : (compL c).getLast? = c.getLast? := by
  rcases List.eq_nil_or_concat c with rfl | ⟨l, x, rfl⟩
  · rfl
  · rw [List.concat_eq_append, compL_snoc]
    unfold stepP
    split
    · next h => rw [h]; simp
    · simp
theorem stepP_foldl_len (l : List Pt) : ∀ acc : List Pt, (l.foldl stepP acc).length ≤ acc.length + l.length := by
  induction l with
  | nil => intro acc; simp
  | cons x l ih =>
    intro acc
    rw [List.foldl_cons]
    have h1 := ih (stepP acc x)
    have h2 : (stepP acc x).length ≤ acc.length + 1 := by unfold stepP; split <;> simp
    simp only [List.length_cons]; omega
theorem compL_len (c : List Pt) : (compL c).length ≤ c.length := by
  have := stepP_foldl_len c []
  simpa [compL] using this
end Go.Proofs.YtaanhddgmiggfaaGreat
