/- slices.SortedFunc at buckets: the buckets in their order. -/
import Derived.Test.YtaanhddgmiggfaaGreatSeq
import Derived.Test.YtaanhddgmiggfaaGreatShelf
namespace Go.Proofs.YtaanhddgmiggfaaGreat
open Go.RowKit Go.Joins Go.Shelf Go.Sort Num

theorem cmpQ_neg {r s : Rat} : cmpQ r s < 0 ↔ r < s := by
  unfold cmpQ
  by_cases h1 : r < s
  · simp [h1]
  · by_cases h2 : s < r <;> simp [h1, h2]
theorem lt_tr' {a b c : Rat} (h1 : a < b) (h2 : b < c) : a < c := Rat.not_le.1 fun h => absurd (Rat.le_trans h (Rat.le_of_lt h1)) (Rat.not_le.2 h2)
theorem lt_asymm' {a b : Rat} (h1 : a < b) : ¬ b < a := fun h => Rat.lt_irrefl (lt_tr' h1 h)
theorem cmpQ_zero {r s : Rat} : cmpQ r s = 0 ↔ r = s := by
  unfold cmpQ
  by_cases h1 : r < s
  · simp [h1, Rat.ne_of_lt h1]
  · by_cases h2 : s < r
    · simp [h1, h2, Ne.symm (Rat.ne_of_lt h2)]
    · simp [h1, h2]; exact Rat.le_antisymm (Rat.not_lt.1 h2) (Rat.not_lt.1 h1)
theorem cmpQ_le {r s : Rat} : cmpQ r s ≤ 0 ↔ r ≤ s := by
  unfold cmpQ
  by_cases h1 : r < s
  · simp [h1, Rat.le_of_lt h1]
  · by_cases h2 : s < r
    · simp [h1, h2, Rat.not_le.2 h2]
    · simp [h1, h2]; exact Rat.not_lt.1 h2

/-- x comes before y. -/
def Buck.lt (x y : Buck) : Prop := x.b < y.b ∨ x.b = y.b ∧ x.r < y.r
theorem ord_neg {x y : Buck} : x.ord y < 0 ↔ x.lt y := by
  unfold Buck.ord ordI Buck.lt
  by_cases h : cmpQ x.b y.b = 0
  · rw [if_pos h, cmpQ_neg]
    rw [cmpQ_zero] at h
    simp [h, Rat.lt_irrefl]
  · rw [if_neg h, cmpQ_neg]
    rw [cmpQ_zero] at h
    simp [h]
theorem ltOf_iff {x y : Buck} : ltOf Buck.ord x y = true ↔ x.lt y := by unfold ltOf; rw [decide_eq_true_iff, ord_neg]
theorem ltOf_not {x y : Buck} : ltOf Buck.ord x y = false ↔ ¬ x.lt y := by rw [← ltOf_iff, Bool.not_eq_true]
theorem buck_tri (x y : Buck) (h1 : ¬ x.lt y) (h2 : ¬ y.lt x) : x = y := by
  have hb : x.b = y.b := Rat.le_antisymm (Rat.not_lt.1 fun h => h2 (.inl h)) (Rat.not_lt.1 fun h => h1 (.inl h))
  exact Buck.ext' hb (Rat.le_antisymm (Rat.not_lt.1 fun h => h2 (.inr ⟨hb.symm, h⟩)) (Rat.not_lt.1 fun h => h1 (.inr ⟨hb, h⟩)))
theorem buck_irrefl (x : Buck) : ¬ x.lt x := by rintro (h | ⟨-, h⟩) <;> exact Rat.lt_irrefl h
theorem buck_trans {x y z : Buck} : x.lt y → y.lt z → x.lt z := by
  rintro (h | ⟨h1, h2⟩) (k | ⟨k1, k2⟩)
  · exact .inl (lt_tr' h k)
  · exact .inl (k1 ▸ h)
  · exact .inl (h1 ▸ k)
  · exact .inr ⟨h1.trans k1, lt_tr' h2 k2⟩
theorem swo : SWO (ltOf Buck.ord) where
  irrefl x := ltOf_not.2 (buck_irrefl x)
  trans x y z h1 h2 := ltOf_iff.2 (buck_trans (ltOf_iff.1 h1) (ltOf_iff.1 h2))
  ntrans x y z h1 h2 := by
    rw [ltOf_not] at *
    intro h
    by_cases h3 : y.lt x
    · exact h2 (buck_trans h3 h)
    · have := buck_tri x y h1 h3
      subst this
      exact h2 h
theorem swo_total (x y : Buck) (h1 : ltOf Buck.ord x y = false) (h2 : ltOf Buck.ord y x = false) : x = y := buck_tri x y (ltOf_not.1 h1) (ltOf_not.1 h2)
/-- The buckets in their order. -/
def sortL (c : List Buck) : List Buck := c.mergeSort fun x y => !(ltOf Buck.ord) y x
theorem sortL_length (c : List Buck) : (sortL c).length = c.length := List.length_mergeSort _

theorem flat_cells (c : List Buck) : ∀ (j i : Nat) (x : Buck), c[j]? = some x → i < 4 → (cellsOf c)[j * 4 + i]? = x.cells[i]? := by
  induction c with
  | nil => intro j i x h; simp at h
  | cons y c ih =>
    intro j i x h hi
    have e : cellsOf (y :: c) = y.cells ++ cellsOf c := rfl
    rw [e]
    cases j with
    | zero =>
      simp only [List.getElem?_cons_zero, Option.some.injEq] at h
      subst h
      rw [List.getElem?_append_left (by simp [Buck.cells]; omega)]
      simp
    | succ j =>
      rw [List.getElem?_append_right (by simp [Buck.cells]; omega), ← ih j i x (by simpa using h) hi]
      congr 1
      simp [Buck.cells]; omega
theorem row_of_cells {W : World} {b off : Nat} {c : List Buck} (h : ∀ j u, (cellsOf c)[j]? = some u → W.cell? ⟨b, off + j, none⟩ = some u) : Row W b off c := by
  intro j x hx
  have f := flat_cells c j
  refine ⟨?_, ?_, ?_, ?_⟩
  · exact h (j * 4) _ ((f 0 x hx (by decide)).trans rfl)
  · rw [Nat.add_assoc]; exact h (j * 4 + 1) _ ((f 1 x hx (by decide)).trans rfl)
  · rw [Nat.add_assoc]; exact h (j * 4 + 2) _ ((f 2 x hx (by decide)).trans rfl)
  · rw [Nat.add_assoc]; exact h (j * 4 + 3) _ ((f 3 x hx (by decide)).trans rfl)
theorem flatK_cells (c : List Buck) (t : Nat) (ht : t < c.length * 4) : (cellsOf c)[t]? = some (flatK Buck.cells 4 c.toArray)[t]! := by
  rw [get_flatK _ _ _ _ (by simpa using ht)]
  have hj : t / 4 < c.length := by omega
  have := flat_cells c (t / 4) (t % 4) c[t / 4] (List.getElem?_eq_getElem hj) (Nat.mod_lt _ (by decide))
  rw [show t / 4 * 4 + t % 4 = t by omega] at this
  rw [this]
  have e1 : c.toArray[t / 4]! = c[t / 4] := by simp [getElem!_pos, hj]
  rw [e1]
  have hl : t % 4 < (c[t / 4]).cells.length := by simp [Buck.cells]; omega
  rw [List.getElem?_eq_getElem hl, getElem!_pos c[t / 4].cells (t % 4) hl]
theorem row_of_holdsK {W : World} {b off : Nat} {c : List Buck} (h : HoldsK Buck.cells 4 W b off c.toArray) : Row W b off c := by
  refine row_of_cells fun j u hu => ?_
  have hj : j < c.length * 4 := by
    have := (List.getElem?_eq_some_iff.1 hu).1
    rwa [cellsOf_length] at this
  have h1 := (h j (by rw [size_flatK]; simpa using hj)).1
  rw [flatK_cells c j hj] at hu
  rw [h1]; simpa using hu
theorem holdsK_of_own {W : World} {base g cap : Nat} {c : List Buck} (h : W.ownsRow base 80 4 (.slice (some ⟨g, 0, none⟩) c.length cap) c.length (cellsOf c)) : HoldsK Buck.cells 4 W g 0 c.toArray := by
  intro j hj
  rw [size_flatK] at hj
  have hj' : j < c.length * 4 := by simpa using hj
  refine ⟨?_, h.frozenAt _⟩
  rw [Nat.zero_add, h.cellAt j hj', flatK_cells c j hj']
  rfl

theorem below_sort {B : Nat} {w0 w : World} {g n : Nat} {d : Array Buck} {os : Array Obj} (h : Below B w0 w) (hg : B ≤ g) (hgw : g < w.heap.size) : Below B w0 (sortWorldK Buck.cells 4 w g 0 n d os) := by
  have hB := h.size
  refine ⟨h.os, h.tape, h.output, by simp only [sortWorldK, size_grow, putRowK, putRow, mapBlock, Sort.ahead, Array.size_modify]; omega, fun k hk => ?_⟩
  rw [← h.block k hk]
  simp only [sortWorldK, putRowK, putRow, mapBlock, Sort.ahead, grow]
  rw [Array.getElem?_append_left (by simp; omega), Array.getElem?_modify, if_neg (by omega)]

theorem cmpLays (blk off size : Nat) (w : World) : CmpLays Tryz.prog 102 #[] Buck.cells 4 Buck.ord blk off size w :=
  fun _ _ _ _ x y => (order_r x y _).mono fun _ _ ⟨h, k⟩ => ⟨h, k.eq⟩

set_option maxHeartbeats 1000000 in
/-- slices.SortFunc at a slice of the call's own. -/
theorem sortFunc_own (base : Nat) (v : Value) (c : List Buck) (hlen : c.length < 4611686018427387904) (w : World) (ho : w.ownsRow base 80 4 v c.length (cellsOf c)) (hnil : v = .slice none 0 0 ↔ c = []) :
    Calls Tryz.prog 134 #[v, .func (.func 102) #[] #[]] w fun e w' => e = .returned (.tuple #[]) ∧ Below base w w' ∧ Sl w'.heap.size w' v (sortL c) := by
  by_cases hc : c = []
  · subst hc
    obtain rfl : v = .slice none 0 0 := hnil.2 rfl
    exact (AnyF.slices_SortFunc_none { Tryz.sortB with } none 0 _ w).mono fun e w' ⟨h1, h2⟩ => ⟨h1, by rw [h2]; exact Below.refl _ _, none, 0, by simp [sortL], fun h => absurd (by simp [sortL]) h⟩
  · have hp : 0 < c.length := List.length_pos_iff.2 hc
    obtain ⟨g, cap, rfl, hb, hlt⟩ := ho.form hp
    have eg : ∀ args w, (callFunc 102 args).run Tryz.prog w = .ok (.enter 102 args) w := enters_of Tryz.func102 (by kernel_rfl) rfl
    have hH := holdsK_of_own ho
    have hS := AnyQ.slices_SortFunc_total Tryz.sortB 4 Tryz.isAgg80 Tryz.sizeOf80 Buck.cells (fun _ => rfl) one_cells Buck.ord swo 102 #[] g 0 cap c.toArray w eg (cmpLays _ _ _ _) hH hlt (by simpa using hlen) swo_total
    simp only [List.size_toArray] at hS
    change Calls Tryz.prog 134 _ _ _ at hS
    refine hS.mono ?_
    rintro e w' ⟨he, n, os, rfl⟩
    have hK := holdsK_sortWorldK_c Buck.cells 4 w g 0 c.toArray (sortL c).toArray n os hH hlt (by simp [sortL_length])
    refine ⟨he, below_sort (Below.refl _ _) hb hlt, some ⟨g, 0, none⟩, cap, by rw [sortL_length], fun _ => ⟨g, 0, rfl, ?_, row_of_holdsK hK⟩⟩
    simp only [sortWorldK, size_grow, putRowK, putRow, mapBlock, Sort.ahead, Array.size_modify]; omega

/-- slices.Collect at the function value of slices.Values. -/
theorem collect_any (Bs : Nat) (sv : Value) (c : List Buck) (hlen : c.length ≤ 4398046511104) (w : World) (hBs : Bs < w.heap.size) (hc : w.cell? ⟨Bs, 0, none⟩ = some sv) (hI : Sl w.heap.size w sv c) :
    Calls Tryz.prog 133 #[.func (.func 135) #[] #[.pointer (some ⟨Bs, 0, none⟩)]] w fun e w' => ∃ v, e = .returned v ∧ w'.ownsRow w.heap.size 80 4 v c.length (cellsOf c) ∧ (v = .slice none 0 0 ↔ c = []) ∧ Below w.heap.size w w' := by
  have hA := callsIn_wide.1 (appendSeq_in Fence.wide 9 trivial trivial rfl (by decide) Bs sv c hlen w hBs hc hI)
  clear hc hI
  go_enter Tryz.func133, Tryz.ntmps133
  go_wp2_with fail
  refine hA.mono ?_
  rintro e w' ⟨v, rfl, h1, h2, h3⟩
  go_wp2
  go_ret
  exact ⟨v, rfl, h1, h2, h3⟩

set_option maxHeartbeats 1000000 in
/-- slices.SortedFunc of slices.Values, by curve.order. -/
theorem sorted_any (Bs : Nat) (sv : Value) (c : List Buck) (hlen : c.length ≤ 4398046511104) (w : World) (hBs : Bs < w.heap.size) (hc : w.cell? ⟨Bs, 0, none⟩ = some sv) (hI : Sl w.heap.size w sv c) :
    Calls Tryz.prog 100 #[.func (.func 135) #[] #[.pointer (some ⟨Bs, 0, none⟩)], .func (.func 102) #[] #[]] w fun e w' => ∃ v, e = .returned v ∧ Below w.heap.size w w' ∧ Sl w'.heap.size w' v (sortL c) := by
  have hA := collect_any Bs sv c hlen w hBs hc hI
  have HS : Hid (∀ (v : Value) (w1 : World), w1.ownsRow w.heap.size 80 4 v c.length (cellsOf c) → (v = Value.slice none 0 0 ↔ c = []) → _) := fun v w1 h1 h2 => sortFunc_own w.heap.size v c (by omega) w1 h1 h2
  clear hc hI
  go_enter Tryz.func100, Tryz.ntmps100
  go_wp2_with fail
  refine hA.mono ?_
  rintro e w1 ⟨v, rfl, h1, h2, h3⟩
  have hS := HS.out v w1 h1 h2
  clear h1 h2 hA
  go_wp2_with fail
  refine hS.mono ?_
  rintro e w2 ⟨rfl, h4, h5⟩
  have h5 := Lib.hid h5
  have h6 := Lib.hid (h3.trans h4)
  clear h3 h4 hS
  go_wp2
  go_ret
  exact ⟨v, rfl, h6.out, h5.out⟩
end Go.Proofs.YtaanhddgmiggfaaGreat
