/- Merged texts: Shelf, Sorted, Normal, Valid, At, Norm, Shift, Rate, Min. -/
import Derived.Shelf.SlGeneric
import Derived.Shelf.SlSortCmp.NoneTotal
import Derived.Ground.SlsfProg
import Derived.Shelf.Spec.SlicesGrow
import Derived.Ground.Names8Prog
import Derived.Test.YtbncfknjgldcbaaGreatProg
import Derived.Test.YtbncfknjgldcbaaGreatM1
import Derived.BigGuardPart
/- The contracts of the library that are used here, laid at this program. -/
namespace Go.Proofs
open Go.Shelf
def Tryz.sortB_ren : Go.Shelf.Ren := ⟨fun | 6 => 128 | 15 => 103 | 14 => 145 | 28 => 139 | 29 => 140 | 20 => 160 | 21 => 161 | 22 => 162 | 23 => 163 | 24 => 164 | 25 => 165 | 26 => 166 | 27 => 167 | 46 => 172 | 47 => 147 | 48 => 148 | 49 => 173 | 50 => 174 | 57 => 176 | n => n, fun | 22 => 22 | 24 => 80 | 25 => 94 | 3 => 3 | 39 => 143 | 0 => 0 | 53 => 171 | 55 => 129 | 4 => 4 | 46 => 164 | 45 => 163 | 50 => 168 | 5 => 5 | 9 => 9 | 66 => 178 | 70 => 182 | 76 => 195 | 77 => 158 | n => n, fun | n => n⟩
theorem Tryz.sortB : Go.Proofs.SlLaysF0.n6 Tryz.prog Tryz.sortB_ren := {
  mixed := by kernel_rfl
  f6 := ⟨Tryz.f128.name, by decide, Tryz.func128.trans (congrArg some (by kernel_rfl))⟩
  f14 := ⟨Tryz.f145.name, by decide, Tryz.func145.trans (congrArg some (by kernel_rfl))⟩
  f15 := Tryz.func103.trans (congrArg some (by kernel_rfl))
  f20 := ⟨Tryz.f160.name, by decide, Tryz.func160.trans (congrArg some (by kernel_rfl))⟩
  f21 := ⟨Tryz.f161.name, by decide, Tryz.func161.trans (congrArg some (by kernel_rfl))⟩
  f22 := ⟨Tryz.f162.name, by decide, Tryz.func162.trans (congrArg some (by kernel_rfl))⟩
  f23 := ⟨Tryz.f163.name, by decide, Tryz.func163.trans (congrArg some (by kernel_rfl))⟩
  f24 := ⟨Tryz.f164.name, by decide, Tryz.func164.trans (congrArg some (by kernel_rfl))⟩
  f25 := ⟨Tryz.f165.name, by decide, Tryz.func165.trans (congrArg some (by kernel_rfl))⟩
  f26 := ⟨Tryz.f166.name, by decide, Tryz.func166.trans (congrArg some (by kernel_rfl))⟩
  f27 := ⟨Tryz.f167.name, by decide, Tryz.func167.trans (congrArg some (by kernel_rfl))⟩
  f28 := Tryz.func139.trans (congrArg some (by kernel_rfl))
  f29 := Tryz.func140.trans (congrArg some (by kernel_rfl))
  f46 := ⟨Tryz.f172.name, by decide, Tryz.func172.trans (congrArg some (by kernel_rfl))⟩
  f47 := Tryz.func147.trans (congrArg some (by kernel_rfl))
  f48 := Tryz.func148.trans (congrArg some (by kernel_rfl))
  f49 := ⟨Tryz.f173.name, by decide, Tryz.func173.trans (congrArg some (by kernel_rfl))⟩
  f50 := ⟨Tryz.f174.name, by decide, Tryz.func174.trans (congrArg some (by kernel_rfl))⟩
  f57 := ⟨Tryz.f176.name, by decide, Tryz.func176.trans (congrArg some (by kernel_rfl))⟩
  t0 := Tryz.underlying0
  a0 := Tryz.isAgg0
  z0 := Tryz.sizeOf0
  v0 := Tryz.zeroValue0
  t3 := Tryz.underlying3
  a3 := Tryz.isAgg3
  z3 := Tryz.sizeOf3
  v3 := Tryz.zeroValue3
  t4 := Tryz.underlying4
  a4 := Tryz.isAgg4
  z4 := Tryz.sizeOf4
  v4 := Tryz.zeroValue4
  t5 := Tryz.underlying5
  a5 := Tryz.isAgg5
  z5 := Tryz.sizeOf5
  v5 := Tryz.zeroValue5
  t9 := Tryz.underlying9
  a9 := Tryz.isAgg9
  z9 := Tryz.sizeOf9
  v9 := Tryz.zeroValue9
  t22 := Tryz.underlying22
  a22 := Tryz.isAgg22
  z22 := Tryz.sizeOf22
  v22 := Tryz.zeroValue22
  t25 := Tryz.underlying94
  a25 := Tryz.isAgg94
  z25 := Tryz.sizeOf94
  v25 := Tryz.zeroValue94
  t39 := Tryz.underlying143
  a39 := Tryz.isAgg143
  z39 := Tryz.sizeOf143
  v39 := Tryz.zeroValue143
  t45 := Tryz.underlying163
  a45 := Tryz.isAgg163
  z45 := Tryz.sizeOf163
  v45 := Tryz.zeroValue163
  t46 := Tryz.underlying164
  a46 := Tryz.isAgg164
  z46 := Tryz.sizeOf164
  v46 := Tryz.zeroValue164
  t50 := Tryz.underlying168
  a50 := Tryz.isAgg168
  z50 := Tryz.sizeOf168
  v50 := Tryz.zeroValue168
  t53 := Tryz.underlying171
  a53 := Tryz.isAgg171
  z53 := Tryz.sizeOf171
  v53 := Tryz.zeroValue171
  t55 := Tryz.underlying129
  a55 := Tryz.isAgg129
  z55 := Tryz.sizeOf129
  v55 := Tryz.zeroValue129
  t66 := Tryz.underlying178
  a66 := Tryz.isAgg178
  z66 := Tryz.sizeOf178
  v66 := Tryz.zeroValue178
  t70 := Tryz.underlying182
  a70 := Tryz.isAgg182
  z70 := Tryz.sizeOf182
  v70 := Tryz.zeroValue182
  t76 := Tryz.underlying195
  a76 := Tryz.isAgg195
  z76 := Tryz.sizeOf195
  v76 := Tryz.zeroValue195
  t77 := Tryz.underlying158
  a77 := Tryz.isAgg158
  z77 := Tryz.sizeOf158
  v77 := Tryz.zeroValue158 }
def Tryz.sortR_ren : Go.Shelf.Ren := ⟨fun | 6 => 64 | 15 => 103 | 14 => 102 | 28 => 139 | 29 => 140 | 20 => 131 | 21 => 132 | 22 => 133 | 23 => 134 | 24 => 135 | 25 => 136 | 26 => 137 | 27 => 138 | 46 => 146 | 47 => 147 | 48 => 148 | 49 => 149 | 50 => 150 | 57 => 168 | n => n, fun | 22 => 44 | 24 => 25 | 25 => 86 | 3 => 3 | 39 => 143 | 0 => 0 | 53 => 171 | 55 => 129 | 4 => 4 | 46 => 164 | 45 => 163 | 50 => 168 | 5 => 5 | 9 => 9 | 66 => 178 | 70 => 182 | 76 => 195 | 77 => 158 | n => n, fun | n => n⟩
theorem Tryz.sortR : Go.Proofs.SlLaysF0.n6 Tryz.prog Tryz.sortR_ren := {
  mixed := by kernel_rfl
  f6 := ⟨Tryz.f64.name, by decide, Tryz.func64.trans (congrArg some (by kernel_rfl))⟩
  f14 := ⟨Tryz.f102.name, by decide, Tryz.func102.trans (congrArg some (by kernel_rfl))⟩
  f15 := Tryz.func103.trans (congrArg some (by kernel_rfl))
  f20 := ⟨Tryz.f131.name, by decide, Tryz.func131.trans (congrArg some (by kernel_rfl))⟩
  f21 := ⟨Tryz.f132.name, by decide, Tryz.func132.trans (congrArg some (by kernel_rfl))⟩
  f22 := ⟨Tryz.f133.name, by decide, Tryz.func133.trans (congrArg some (by kernel_rfl))⟩
  f23 := ⟨Tryz.f134.name, by decide, Tryz.func134.trans (congrArg some (by kernel_rfl))⟩
  f24 := ⟨Tryz.f135.name, by decide, Tryz.func135.trans (congrArg some (by kernel_rfl))⟩
  f25 := ⟨Tryz.f136.name, by decide, Tryz.func136.trans (congrArg some (by kernel_rfl))⟩
  f26 := ⟨Tryz.f137.name, by decide, Tryz.func137.trans (congrArg some (by kernel_rfl))⟩
  f27 := ⟨Tryz.f138.name, by decide, Tryz.func138.trans (congrArg some (by kernel_rfl))⟩
  f28 := Tryz.func139.trans (congrArg some (by kernel_rfl))
  f29 := Tryz.func140.trans (congrArg some (by kernel_rfl))
  f46 := ⟨Tryz.f146.name, by decide, Tryz.func146.trans (congrArg some (by kernel_rfl))⟩
  f47 := Tryz.func147.trans (congrArg some (by kernel_rfl))
  f48 := Tryz.func148.trans (congrArg some (by kernel_rfl))
  f49 := ⟨Tryz.f149.name, by decide, Tryz.func149.trans (congrArg some (by kernel_rfl))⟩
  f50 := ⟨Tryz.f150.name, by decide, Tryz.func150.trans (congrArg some (by kernel_rfl))⟩
  f57 := ⟨Tryz.f168.name, by decide, Tryz.func168.trans (congrArg some (by kernel_rfl))⟩
  t0 := Tryz.underlying0
  a0 := Tryz.isAgg0
  z0 := Tryz.sizeOf0
  v0 := Tryz.zeroValue0
  t3 := Tryz.underlying3
  a3 := Tryz.isAgg3
  z3 := Tryz.sizeOf3
  v3 := Tryz.zeroValue3
  t4 := Tryz.underlying4
  a4 := Tryz.isAgg4
  z4 := Tryz.sizeOf4
  v4 := Tryz.zeroValue4
  t5 := Tryz.underlying5
  a5 := Tryz.isAgg5
  z5 := Tryz.sizeOf5
  v5 := Tryz.zeroValue5
  t9 := Tryz.underlying9
  a9 := Tryz.isAgg9
  z9 := Tryz.sizeOf9
  v9 := Tryz.zeroValue9
  t22 := Tryz.underlying44
  a22 := Tryz.isAgg44
  z22 := Tryz.sizeOf44
  v22 := Tryz.zeroValue44
  t25 := Tryz.underlying86
  a25 := Tryz.isAgg86
  z25 := Tryz.sizeOf86
  v25 := Tryz.zeroValue86
  t39 := Tryz.underlying143
  a39 := Tryz.isAgg143
  z39 := Tryz.sizeOf143
  v39 := Tryz.zeroValue143
  t45 := Tryz.underlying163
  a45 := Tryz.isAgg163
  z45 := Tryz.sizeOf163
  v45 := Tryz.zeroValue163
  t46 := Tryz.underlying164
  a46 := Tryz.isAgg164
  z46 := Tryz.sizeOf164
  v46 := Tryz.zeroValue164
  t50 := Tryz.underlying168
  a50 := Tryz.isAgg168
  z50 := Tryz.sizeOf168
  v50 := Tryz.zeroValue168
  t53 := Tryz.underlying171
  a53 := Tryz.isAgg171
  z53 := Tryz.sizeOf171
  v53 := Tryz.zeroValue171
  t55 := Tryz.underlying129
  a55 := Tryz.isAgg129
  z55 := Tryz.sizeOf129
  v55 := Tryz.zeroValue129
  t66 := Tryz.underlying178
  a66 := Tryz.isAgg178
  z66 := Tryz.sizeOf178
  v66 := Tryz.zeroValue178
  t70 := Tryz.underlying182
  a70 := Tryz.isAgg182
  z70 := Tryz.sizeOf182
  v70 := Tryz.zeroValue182
  t76 := Tryz.underlying195
  a76 := Tryz.isAgg195
  z76 := Tryz.sizeOf195
  v76 := Tryz.zeroValue195
  t77 := Tryz.underlying158
  a77 := Tryz.isAgg158
  z77 := Tryz.sizeOf158
  v77 := Tryz.zeroValue158 }
def Tryz.growC_ren : Go.Shelf.Ren := ⟨fun | 4 => 100 | n => n, fun | 22 => 23 | 25 => 80 | 3 => 3 | 4 => 4 | 9 => 9 | 20 => 20 | 0 => 0 | n => n, fun | n => n⟩
theorem Tryz.growC : Go.Proofs.Lays8.n4 Tryz.prog Tryz.growC_ren := {
  mixed := by kernel_rfl
  f4 := ⟨Tryz.f100.name, by decide, Tryz.func100.trans (congrArg some (by kernel_rfl))⟩
  t0 := Tryz.underlying0
  a0 := Tryz.isAgg0
  z0 := Tryz.sizeOf0
  v0 := Tryz.zeroValue0
  t3 := Tryz.underlying3
  a3 := Tryz.isAgg3
  z3 := Tryz.sizeOf3
  v3 := Tryz.zeroValue3
  t4 := Tryz.underlying4
  a4 := Tryz.isAgg4
  z4 := Tryz.sizeOf4
  v4 := Tryz.zeroValue4
  t9 := Tryz.underlying9
  a9 := Tryz.isAgg9
  z9 := Tryz.sizeOf9
  v9 := Tryz.zeroValue9
  t20 := Tryz.underlying20
  a20 := Tryz.isAgg20
  z20 := Tryz.sizeOf20
  v20 := Tryz.zeroValue20
  t22 := Tryz.underlying23
  a22 := Tryz.isAgg23
  z22 := Tryz.sizeOf23
  v22 := Tryz.zeroValue23 }
end Go.Proofs
/- slices.SortedFunc at buckets: the buckets in their order. -/
namespace Go.Proofs.YtbncfknjgldcbaaGreat
open Go.RowKit Go.Joins Go.Shelf Go.Sort Num

theorem cmpQ_neg {r s : Rat} : cmpQ r s < 0 ↔ r < s := by
  unfold cmpQ
  by_cases h1 : r < s
  · simp [h1]
  · by_cases h2 : s < r <;> simp [h1, h2]
theorem lt_tr' {a b c : Rat} (h1 : a < b) (h2 : b < c) : a < c := Rat.not_le.1 fun h => absurd (Rat.le_trans h (Rat.le_of_lt h1)) (Rat.not_le.2 h2)
theorem lt_asymm' {a b : Rat} (h1 : a < b) : ¬ b < a := fun h => Rat.lt_irrefl (lt_tr' h1 h)
theorem cmpQ_zero {r s : Rat} : cmpQ r s = 0 ↔ r = s := by
  unfold cmpQ
  by_cases h1 : r < s
  · simp [h1, Rat.ne_of_lt h1]
  · by_cases h2 : s < r
    · simp [h1, h2, Ne.symm (Rat.ne_of_lt h2)]
    · simp [h1, h2]; exact Rat.le_antisymm (Rat.not_lt.1 h2) (Rat.not_lt.1 h1)
theorem cmpQ_le {r s : Rat} : cmpQ r s ≤ 0 ↔ r ≤ s := by
  unfold cmpQ
  by_cases h1 : r < s
  · simp [h1, Rat.le_of_lt h1]
  · by_cases h2 : s < r
    · simp [h1, h2, Rat.not_le.2 h2]
    · simp [h1, h2]; exact Rat.not_lt.1 h2

/-- x comes before y. -/
def Buck.lt (x y : Buck) : Prop := x.b < y.b ∨ x.b = y.b ∧ x.r < y.r
theorem ord_neg {x y : Buck} : x.ord y < 0 ↔ x.lt y := by
  unfold Buck.ord ordI Buck.lt
  by_cases h : cmpQ x.b y.b = 0
  · rw [if_pos h, cmpQ_neg]
    rw [cmpQ_zero] at h
    simp [h, Rat.lt_irrefl]
  · rw [if_neg h, cmpQ_neg]
    rw [cmpQ_zero] at h
    simp [h]
theorem ltOf_iff {x y : Buck} : ltOf Buck.ord x y = true ↔ x.lt y := by unfold ltOf; rw [decide_eq_true_iff, ord_neg]
theorem ltOf_not {x y : Buck} : ltOf Buck.ord x y = false ↔ ¬ x.lt y := by rw [← ltOf_iff, Bool.not_eq_true]
theorem buck_tri (x y : Buck) (h1 : ¬ x.lt y) (h2 : ¬ y.lt x) : x = y := by
  have hb : x.b = y.b := Rat.le_antisymm (Rat.not_lt.1 fun h => h2 (.inl h)) (Rat.not_lt.1 fun h => h1 (.inl h))
  exact Buck.ext' hb (Rat.le_antisymm (Rat.not_lt.1 fun h => h2 (.inr ⟨hb.symm, h⟩)) (Rat.not_lt.1 fun h => h1 (.inr ⟨hb, h⟩)))
theorem buck_irrefl (x : Buck) : ¬ x.lt x := by rintro (h | ⟨-, h⟩) <;> exact Rat.lt_irrefl h
theorem buck_trans {x y z : Buck} : x.lt y → y.lt z → x.lt z := by
  rintro (h | ⟨h1, h2⟩) (k | ⟨k1, k2⟩)
  · exact .inl (lt_tr' h k)
  · exact .inl (k1 ▸ h)
  · exact .inl (h1 ▸ k)
  · exact .inr ⟨h1.trans k1, lt_tr' h2 k2⟩
theorem swo : SWO (ltOf Buck.ord) where
  irrefl x := ltOf_not.2 (buck_irrefl x)
  trans x y z h1 h2 := ltOf_iff.2 (buck_trans (ltOf_iff.1 h1) (ltOf_iff.1 h2))
  ntrans x y z h1 h2 := by
    rw [ltOf_not] at *
    intro h
    by_cases h3 : y.lt x
    · exact h2 (buck_trans h3 h)
    · have := buck_tri x y h1 h3
      subst this
      exact h2 h
theorem swo_total (x y : Buck) (h1 : ltOf Buck.ord x y = false) (h2 : ltOf Buck.ord y x = false) : x = y := buck_tri x y (ltOf_not.1 h1) (ltOf_not.1 h2)
/-- The buckets in their order. -/
def sortL (c : List Buck) : List Buck := c.mergeSort fun x y => !(ltOf Buck.ord) y x
theorem sortL_length (c : List Buck) : (sortL c).length = c.length := List.length_mergeSort _

theorem flat_cells (c : List Buck) : ∀ (j i : Nat) (x : Buck), c[j]? = some x → i < 4 → (cellsOf c)[j * 4 + i]? = x.cells[i]? := by
  induction c with
  | nil => intro j i x h; simp at h
  | cons y c ih =>
    intro j i x h hi
    have e : cellsOf (y :: c) = y.cells ++ cellsOf c := rfl
    rw [e]
    cases j with
    | zero =>
      simp only [List.getElem?_cons_zero, Option.some.injEq] at h
      subst h
      rw [List.getElem?_append_left (by simp [Buck.cells]; omega)]
      simp
    | succ j =>
      rw [List.getElem?_append_right (by simp [Buck.cells]; omega), ← ih j i x (by simpa using h) hi]
      congr 1
      simp [Buck.cells]; omega
theorem row_of_cells {W : World} {b off : Nat} {c : List Buck} (h : ∀ j u, (cellsOf c)[j]? = some u → W.cell? ⟨b, off + j, none⟩ = some u) : Row W b off c := by
  intro j x hx
  have f := flat_cells c j
  refine ⟨?_, ?_, ?_, ?_⟩
  · exact h (j * 4) _ ((f 0 x hx (by decide)).trans rfl)
  · rw [Nat.add_assoc]; exact h (j * 4 + 1) _ ((f 1 x hx (by decide)).trans rfl)
  · rw [Nat.add_assoc]; exact h (j * 4 + 2) _ ((f 2 x hx (by decide)).trans rfl)
  · rw [Nat.add_assoc]; exact h (j * 4 + 3) _ ((f 3 x hx (by decide)).trans rfl)
theorem flatK_cells (c : List Buck) (t : Nat) (ht : t < c.length * 4) : (cellsOf c)[t]? = some (flatK Buck.cells 4 c.toArray)[t]! := by
  rw [get_flatK _ _ _ _ (by simpa using ht)]
  have hj : t / 4 < c.length := by omega
  have := flat_cells c (t / 4) (t % 4) c[t / 4] (List.getElem?_eq_getElem hj) (Nat.mod_lt _ (by decide))
  rw [show t / 4 * 4 + t % 4 = t by omega] at this
  rw [this]
  have e1 : c.toArray[t / 4]! = c[t / 4] := by simp [getElem!_pos, hj]
  rw [e1]
  have hl : t % 4 < (c[t / 4]).cells.length := by simp [Buck.cells]; omega
  rw [List.getElem?_eq_getElem hl, getElem!_pos c[t / 4].cells (t % 4) hl]
theorem row_of_holdsK {W : World} {b off : Nat} {c : List Buck} (h : HoldsK Buck.cells 4 W b off c.toArray) : Row W b off c := by
  refine row_of_cells fun j u hu => ?_
  have hj : j < c.length * 4 := by
    have := (List.getElem?_eq_some_iff.1 hu).1
    rwa [cellsOf_length] at this
  have h1 := (h j (by rw [size_flatK]; simpa using hj)).1
  rw [flatK_cells c j hj] at hu
  rw [h1]; simpa using hu
theorem holdsK_of_own {W : World} {base g cap : Nat} {c : List Buck} (h : W.ownsRow base 80 4 (.slice (some ⟨g, 0, none⟩) c.length cap) c.length (cellsOf c)) : HoldsK Buck.cells 4 W g 0 c.toArray := by
  intro j hj
  rw [size_flatK] at hj
  have hj' : j < c.length * 4 := by simpa using hj
  refine ⟨?_, h.frozenAt _⟩
  rw [Nat.zero_add, h.cellAt j hj', flatK_cells c j hj']
  rfl

theorem below_sort {B : Nat} {w0 w : World} {g n : Nat} {d : Array Buck} {os : Array Obj} (h : Below B w0 w) (hg : B ≤ g) (hgw : g < w.heap.size) : Below B w0 (sortWorldK Buck.cells 4 w g 0 n d os) := by
  have hB := h.size
  refine ⟨h.os, h.tape, h.output, by simp only [sortWorldK, size_grow, putRowK, putRow, mapBlock, Sort.ahead, Array.size_modify]; omega, fun k hk => ?_⟩
  rw [← h.block k hk]
  simp only [sortWorldK, putRowK, putRow, mapBlock, Sort.ahead, grow]
  rw [Array.getElem?_append_left (by simp; omega), Array.getElem?_modify, if_neg (by omega)]

theorem cmpLays (blk off size : Nat) (w : World) : CmpLays Tryz.prog 96 #[] Buck.cells 4 Buck.ord blk off size w :=
  fun _ _ _ _ x y => (order_r x y _).mono fun _ _ ⟨h, k⟩ => ⟨h, k.eq⟩

set_option maxHeartbeats 1000000 in
/-- slices.SortFunc at a slice of the call's own. -/
theorem sortFunc_own (base : Nat) (v : Value) (c : List Buck) (hlen : c.length < 4611686018427387904) (w : World) (ho : w.ownsRow base 80 4 v c.length (cellsOf c)) (hnil : v = .slice none 0 0 ↔ c = []) :
    Calls Tryz.prog 128 #[v, .func (.func 96) #[] #[]] w fun e w' => e = .returned (.tuple #[]) ∧ Below base w w' ∧ Sl w'.heap.size w' v (sortL c) := by
  by_cases hc : c = []
  · subst hc
    obtain rfl : v = .slice none 0 0 := hnil.2 rfl
    exact (AnyF.slices_SortFunc_none { Tryz.sortB with } none 0 _ w).mono fun e w' ⟨h1, h2⟩ => ⟨h1, by rw [h2]; exact Below.refl _ _, none, 0, by simp [sortL], fun h => absurd (by simp [sortL]) h⟩
  · have hp : 0 < c.length := List.length_pos_iff.2 hc
    obtain ⟨g, cap, rfl, hb, hlt⟩ := ho.form hp
    have eg : ∀ args w, (callFunc 96 args).run Tryz.prog w = .ok (.enter 96 args) w := enters_of Tryz.func96 (by kernel_rfl) rfl
    have hH := holdsK_of_own ho
    have hS := AnyQ.slices_SortFunc_total Tryz.sortB 4 Tryz.isAgg80 Tryz.sizeOf80 Buck.cells (fun _ => rfl) one_cells Buck.ord swo 96 #[] g 0 cap c.toArray w eg (cmpLays _ _ _ _) hH hlt (by simpa using hlen) swo_total
    simp only [List.size_toArray] at hS
    change Calls Tryz.prog 128 _ _ _ at hS
    refine hS.mono ?_
    rintro e w' ⟨he, n, os, rfl⟩
    have hK := holdsK_sortWorldK_c Buck.cells 4 w g 0 c.toArray (sortL c).toArray n os hH hlt (by simp [sortL_length])
    refine ⟨he, below_sort (Below.refl _ _) hb hlt, some ⟨g, 0, none⟩, cap, by rw [sortL_length], fun _ => ⟨g, 0, rfl, ?_, row_of_holdsK hK⟩⟩
    simp only [sortWorldK, size_grow, putRowK, putRow, mapBlock, Sort.ahead, Array.size_modify]; omega

/-- slices.Collect at the function value of slices.Values. -/
theorem collect_any (Bs : Nat) (sv : Value) (c : List Buck) (hlen : c.length ≤ 4398046511104) (w : World) (hBs : Bs < w.heap.size) (hc : w.cell? ⟨Bs, 0, none⟩ = some sv) (hI : Sl w.heap.size w sv c) :
    Calls Tryz.prog 127 #[.func (.func 129) #[] #[.pointer (some ⟨Bs, 0, none⟩)]] w fun e w' => ∃ v, e = .returned v ∧ w'.ownsRow w.heap.size 80 4 v c.length (cellsOf c) ∧ (v = .slice none 0 0 ↔ c = []) ∧ Below w.heap.size w w' := by
  have hA := callsIn_wide.1 (appendSeq_in Fence.wide 9 trivial trivial rfl (by decide) Bs sv c hlen w hBs hc hI)
  clear hc hI
  go_enter Tryz.func127, Tryz.ntmps127
  go_wp2_with fail
  refine hA.mono ?_
  rintro e w' ⟨v, rfl, h1, h2, h3⟩
  go_wp2
  go_ret
  exact ⟨v, rfl, h1, h2, h3⟩

set_option maxHeartbeats 1000000 in
/-- slices.SortedFunc of slices.Values, by curve.order. -/
theorem sorted_any (Bs : Nat) (sv : Value) (c : List Buck) (hlen : c.length ≤ 4398046511104) (w : World) (hBs : Bs < w.heap.size) (hc : w.cell? ⟨Bs, 0, none⟩ = some sv) (hI : Sl w.heap.size w sv c) :
    Calls Tryz.prog 94 #[.func (.func 129) #[] #[.pointer (some ⟨Bs, 0, none⟩)], .func (.func 96) #[] #[]] w fun e w' => ∃ v, e = .returned v ∧ Below w.heap.size w w' ∧ Sl w'.heap.size w' v (sortL c) := by
  have hA := collect_any Bs sv c hlen w hBs hc hI
  have HS : Hid (∀ (v : Value) (w1 : World), w1.ownsRow w.heap.size 80 4 v c.length (cellsOf c) → (v = Value.slice none 0 0 ↔ c = []) → _) := fun v w1 h1 h2 => sortFunc_own w.heap.size v c (by omega) w1 h1 h2
  clear hc hI
  go_enter Tryz.func94, Tryz.ntmps94
  go_wp2_with fail
  refine hA.mono ?_
  rintro e w1 ⟨v, rfl, h1, h2, h3⟩
  have hS := HS.out v w1 h1 h2
  clear h1 h2 hA
  go_wp2_with fail
  refine hS.mono ?_
  rintro e w2 ⟨rfl, h4, h5⟩
  have h5 := Lib.hid h5
  have h6 := Lib.hid (h3.trans h4)
  clear h3 h4 hS
  go_wp2
  go_ret
  exact ⟨v, rfl, h6.out, h5.out⟩
end Go.Proofs.YtbncfknjgldcbaaGreat
/- curve.normal: the normal form of valid buckets. -/
namespace Go.Proofs.YtbncfknjgldcbaaGreat
open Go.RowKit Go.Joins Go.Shelf Go.Sort Num

/-- One bucket more, behind those that are kept. -/
def keepB (kept : List Buck) (b : Buck) : List Buck :=
  match kept.getLast? with
  | none => kept ++ [b]
  | some l => if l ≠ b ∧ l.domB b = false then kept ++ [b] else kept
theorem keep_nil (b : Buck) : keepB [] b = [b] := rfl
theorem keep_more {l b : Buck} (init : List Buck) (h1 : l ≠ b) (h2 : l.domB b = false) : keepB (init ++ [l]) b = init ++ [l] ++ [b] := by
  unfold keepB; rw [List.getLast?_concat]; exact if_pos ⟨h1, h2⟩
theorem keep_same {l : Buck} (init : List Buck) : keepB (init ++ [l]) l = init ++ [l] := by
  unfold keepB; rw [List.getLast?_concat]; exact if_neg (fun h => h.1 rfl)
theorem keep_dom {l b : Buck} (init : List Buck) (h2 : l.domB b = true) : keepB (init ++ [l]) b = init ++ [l] := by
  unfold keepB; rw [List.getLast?_concat]; exact if_neg (fun h => by rw [h2] at h; cases h.2)
/-- The normal form. -/
def normL (c : List Buck) : List Buck := (sortL c).foldl keepB []
theorem foldl_keep_length (l : List Buck) (acc : List Buck) : (l.foldl keepB acc).length ≤ acc.length + l.length := by
  induction l generalizing acc with
  | nil => simp
  | cons x l ih =>
    rw [List.foldl_cons]
    have h1 := ih (keepB acc x)
    have h2 : (keepB acc x).length ≤ acc.length + 1 := by
      unfold keepB
      split
      · simp
      · split <;> simp
    simp only [List.length_cons]; omega

theorem own_below {w w' : World} {base : Nat} {e : TypeId} {size n : Nat} {v : Value} {xs : List Value} (h : w.ownsRow base e size v n xs) (hb : Below w.heap.size w w') : w'.ownsRow base e size v n xs := by
  obtain ⟨h1, h2⟩ := h
  refine ⟨h1, ?_⟩
  rcases h2 with h2 | ⟨g, cap, cur, e1, e2, e3, e4⟩
  · exact .inl h2
  · exact .inr ⟨g, cap, cur, e1, e2, (hb.block g (Array.getElem?_eq_some_iff.1 e3).1).trans e3, e4⟩
theorem own_base {w : World} {base base' : Nat} {e : TypeId} {size n : Nat} {v : Value} {xs : List Value} (h : w.ownsRow base e size v n xs) (hb : base' ≤ base) : w.ownsRow base' e size v n xs := by
  obtain ⟨h1, h2⟩ := h
  refine ⟨h1, ?_⟩
  rcases h2 with h2 | ⟨g, cap, cur, e1, e2, e3⟩
  · exact .inl h2
  · exact .inr ⟨g, cap, cur, e1, by omega, e3⟩
theorem own_cells {w : World} {base : Nat} {g cap : Nat} {c : List Buck} (h : w.ownsRow base 80 4 (.slice (some ⟨g, 0, none⟩) c.length cap) c.length (cellsOf c)) {j : Nat} {x : Buck} (hx : c[j]? = some x) :
    w.cell? ⟨g, j * 4, none⟩ = some (.int .i64 x.b.num) ∧ w.cell? ⟨g, j * 4 + 1, none⟩ = some (.int .i64 x.b.den) ∧ w.cell? ⟨g, j * 4 + 2, none⟩ = some (.int .i64 x.r.num) ∧ w.cell? ⟨g, j * 4 + 3, none⟩ = some (.int .i64 x.r.den) := by
  have hj : j < c.length := (List.getElem?_eq_some_iff.1 hx).1
  have f := fun i (hi : i < 4) => (h.cellAt (j * 4 + i) (by omega)).trans (flat_cells c j i x hx hi)
  exact ⟨f 0 (by decide), f 1 (by decide), f 2 (by decide), f 3 (by decide)⟩
theorem own_lt {w : World} {base : Nat} {e : TypeId} {size n : Nat} {g cap : Nat} {xs : List Value} (h : w.ownsRow base e size (.slice (some ⟨g, 0, none⟩) n cap) n xs) : base ≤ g ∧ g < w.heap.size := by
  rcases h.2 with ⟨h, _⟩ | ⟨g', cap', cur, e1, e2, e3, _⟩
  · cases h
  · simp only [Value.slice.injEq, Option.some.injEq, Addr.mk.injEq, and_true, true_and] at e1
    obtain ⟨rfl, -⟩ := e1
    exact ⟨e2, (Array.getElem?_eq_some_iff.1 e3).1⟩

set_option maxRecDepth 100000 in
set_option maxHeartbeats 4000000 in
theorem normal_any (A : Option Addr) (cap : Nat) (c : List Buck) (hlen : c.length ≤ 1048576) (w : World) (hI : Sl w.heap.size w (.slice A c.length cap) c) :
    Calls Tryz.prog 57 #[.slice A c.length cap] w fun e w' => ∃ v, e = .returned v ∧ w'.ownsRow w.heap.size 80 4 v (normL c).length (cellsOf (normL c)) ∧ (v = .slice none 0 0 ↔ normL c = []) ∧ Below w.heap.size w w' := by
  obtain ⟨i0, hi, hz0, hz1, hz2⟩ := info_parts infoB
  have HV : Hid (∀ W : World, _) := fun W => callsIn_wide.1 (values_in Fence.wide 9 trivial rfl A c.length cap W)
  have hA := sorted_any w.heap.size (.slice A c.length cap) c (by omega) (w.alloc (.cells #[.slice A c.length cap] 22)) (by simp) (Boxed.new w _ _).cell (by
    obtain ⟨A', cap', e, h⟩ := hI.below ((Below.refl _ w).alloc (Nat.le_refl _) (.cells #[.slice A c.length cap] 22)) (Nat.le_refl _)
    exact ⟨A', cap', e, fun hc => by obtain ⟨b, off, e1, e2, e3⟩ := h hc; exact ⟨b, off, e1, by simp; omega, e3⟩⟩)
  have hsl := Lib.hid (sortL_length c)
  have hN : Hid (normL c = (sortL c).foldl keepB []) := rfl
  generalize normL c = N at hN ⊢
  generalize hS : sortL c = S at hA hsl hN
  clear hI hS
  have hSl : S.length ≤ 1048576 := by rw [hsl.out]; exact hlen
  go_enter Tryz.func57, Tryz.ntmps57
  go_wp2_with fail
  refine (HV.out _).mono ?_
  rintro e w1 ⟨rfl, rfl⟩
  go_wp2_with fail
  refine hA.mono ?_
  rintro e w1 ⟨v, rfl, hb, hSl2⟩
  obtain ⟨A', cap', rfl, hrow⟩ := hSl2
  have hB1 : Below w.heap.size w w1 := ((Below.refl _ _).alloc (Nat.le_refl _) _).trans (hb.mono (by simp))
  clear hb hA HV
  go_wp2_with fail
  go_loopw [3, 11] (fun v i wr => ∃ k : Nat, k ≤ S.length ∧ i = .int .i64 k ∧ wr.ownsRow w1.heap.size 80 4 v ((S.take k).foldl keepB []).length (cellsOf ((S.take k).foldl keepB [])) ∧ (v = .slice none 0 0 ↔ (S.take k).foldl keepB [] = []) ∧ Below w1.heap.size w1 wr)
    (fun _ i _ => S.length - (intOf i).toNat)
  case atStart => exact ⟨0, Nat.zero_le _, rfl, World.ownsRow_nil _ _ _ _, by simp, Below.refl _ _⟩
  case round =>
    obtain ⟨k, hk, rfl, hown, hnil, hBr⟩ := hrel
    by_cases hlt : k < S.length
    · have hx : S[k]? = some S[k] := List.getElem?_eq_getElem hlt
      obtain ⟨x, hxe⟩ : ∃ x, S[k] = x := ⟨_, rfl⟩
      rw [hxe] at hx
      have hts := take_succ' hx
      have hfold : (S.take (k + 1)).foldl keepB [] = keepB ((S.take k).foldl keepB []) x := by rw [hts, List.foldl_append]; rfl
      have hfl := foldl_keep_length (S.take k) []
      have htl : (S.take k).length ≤ k := List.length_take_le _ _
      obtain ⟨b, off, rfl, hb, hr⟩ := hrow (by intro h; rw [h] at hlt; simp at hlt)
      obtain ⟨c0, c1, c2, c3⟩ := hr.below hBr hb k x hx
      have hFold := Lib.hid hfold
      generalize (S.take k).foldl keepB [] = acc at hown hnil hFold hfl
      simp only [List.length_nil, Nat.zero_add] at hfl
      clear hx hxe hts hfold hrow
      have hone := one_cells x
      have hcn : Hid (cellsOf [x] = x.cells) := by simp [cellsOf, Hid]
      simp only [Buck.cells] at hone
      rcases List.eq_nil_or_concat acc with rfl | ⟨init, l, hacc⟩
      · obtain rfl : u3 = .slice none 0 0 := hnil.2 rfl
        clear hnil hown
        go_wp2_with fail
        have bX := BoxN.new wr 80 #[.int .i64 x.b.num, .int .i64 x.b.den, .int .i64 x.r.num, .int .i64 x.r.den]
        have hB2 : Below w1.heap.size w1 (wr.alloc (.cells #[.int .i64 x.b.num, .int .i64 x.b.den, .int .i64 x.r.num, .int .i64 x.r.den] 80)) := hBr.alloc hBr.size _
        generalize wr.alloc (.cells #[.int .i64 x.b.num, .int .i64 x.b.den, .int .i64 x.r.num, .int .i64 x.r.den] 80) = wq at bX hB2 ⊢
        generalize wr.heap.size = bb at bX ⊢
        go_quiet (fail)
        rename_i nq
        have own1 : (wq.drewN nq).ownsRow w1.heap.size 80 4 (.slice none 0 0) 0 [] := World.ownsRow_nil _ _ _ _
        replace bX : BoxN (wq.drewN nq) bb 80 _ := bX
        replace hB2 : Below w1.heap.size w1 (wq.drewN nq) := below_drewN hB2 nq
        generalize wq.drewN nq = v1 at own1 bX hB2 ⊢
        have b0 : v1.cell? ⟨bb, 0, none⟩ = some (.int .i64 x.b.num) := bX.cell 0
        have b1 : v1.cell? ⟨bb, 1, none⟩ = some (.int .i64 x.b.den) := bX.cell 1
        have b2 : v1.cell? ⟨bb, 2, none⟩ = some (.int .i64 x.r.num) := bX.cell 2
        have b3 : v1.cell? ⟨bb, 3, none⟩ = some (.int .i64 x.r.den) := bX.cell 3
        go_wp2_with (at_builtin; refine wpList_append_own _ rfl _ _ 23 rfl w1.heap.size 80 i0 _ 4 32 Tryz.underlying23 hi hz0 hz1 hz2 rfl (by decide) _ _ _ rfl (own1.alloc _) ⟨v1.heap.size, 0, none⟩ 1 1 [.int .i64 x.b.num, .int .i64 x.b.den, .int .i64 x.r.num, .int .i64 x.r.den] rfl rfl (World.news_of_block (cs := #[.int .i64 x.b.num, .int .i64 x.b.den, .int .i64 x.r.num, .int .i64 x.r.den]) (t := 80) (fr := (0, 0)) (heap_alloc_new v1 _)) hone (by unfold maxLen; omega) (by omega) (by have := hB2.size; simp; omega) ?_; intro v' w2 hown' hgrow _; obtain ⟨g', cap3, rfl⟩ := ownsRow_succ hown')
        have hB3 : Below w1.heap.size w1 w2 := (hB2.alloc hB2.size _).grown hgrow (by have := hB2.size; simp; omega) (fun k e => by cases (show (none : Option Nat) = some k from e))
        go_roundw
        case rel => exact ⟨k + 1, by omega, by go_num, by rw [hFold.out, keep_nil]; simpa [cellsOf, Buck.cells] using hown', by rw [hFold.out, keep_nil]; simp, hB3⟩
        case measure => simp [intOf]; omega
      · rw [List.concat_eq_append] at hacc
        subst hacc
        have hlen2 : (init ++ [l]).length = init.length + 1 := by simp
        have hcl := one_cells l
        have own0 := hown
        rw [hlen2] at own0
        obtain ⟨g, cap2, rfl⟩ := ownsRow_succ own0
        have ok := fun (h : wr.ownsRow w1.heap.size 80 4 (.slice (some ⟨g, 0, none⟩) (init ++ [l]).length cap2) (init ++ [l]).length (cellsOf (init ++ [l]))) => own_cells h (j := init.length) (x := l) (by simp)
        obtain ⟨d0, d1, d2, d3⟩ := ok (by rw [hlen2]; exact own0)
        obtain ⟨hg1, hg2⟩ := own_lt own0
        rw [hlen2] at hfl
        have hfl' : init.length < 1048576 := by omega
        clear ok hown hnil
        generalize init.length = m at *
        have hlen3 : (init ++ [l]).length = m + 1 := hlen2
        go_wp2_with fail
        have bX := BoxN.new wr 80 #[.int .i64 x.b.num, .int .i64 x.b.den, .int .i64 x.r.num, .int .i64 x.r.den]
        have hBq : Below w1.heap.size w1 (wr.alloc (.cells #[.int .i64 x.b.num, .int .i64 x.b.den, .int .i64 x.r.num, .int .i64 x.r.den] 80)) := hBr.alloc hBr.size _
        have ownq := own0.alloc (.cells #[.int .i64 x.b.num, .int .i64 x.b.den, .int .i64 x.r.num, .int .i64 x.r.den] 80)
        have qlt : ∀ a : Addr, a.block < wr.heap.size → (wr.alloc (.cells #[.int .i64 x.b.num, .int .i64 x.b.den, .int .i64 x.r.num, .int .i64 x.r.den] 80)).cell? a = wr.cell? a := fun a h => World.cell?_alloc_lt wr _ a h
        have qg : g < (wr.alloc (.cells #[.int .i64 x.b.num, .int .i64 x.b.den, .int .i64 x.r.num, .int .i64 x.r.den] 80)).heap.size := by simp; omega
        generalize wr.alloc (.cells #[.int .i64 x.b.num, .int .i64 x.b.den, .int .i64 x.r.num, .int .i64 x.r.den] 80) = wq at bX hBq ownq qlt qg ⊢
        have p0 := Gr.cell (bX.cell 0) bX.lt
        have p1 := Gr.cell (bX.cell 1) bX.lt
        have p2 := Gr.cell (bX.cell 2) bX.lt
        have p3 := Gr.cell (bX.cell 3) bX.lt
        have q0 := Gr.cell ((qlt ⟨g, m * 4, none⟩ hg2).trans d0) qg
        have q1 := Gr.cell ((qlt ⟨g, m * 4 + 1, none⟩ hg2).trans d1) qg
        have q2 := Gr.cell ((qlt ⟨g, m * 4 + 2, none⟩ hg2).trans d2) qg
        have q3 := Gr.cell ((qlt ⟨g, m * 4 + 3, none⟩ hg2).trans d3) qg
        haveI : Nonempty (Wd (Gr wq)) := ⟨⟨wq, Below.refl _ _⟩⟩
        clear qlt d0 d1 d2 d3
        generalize wr.heap.size = bb at *
        have hmn : decide ((m : Int) < 0) = false := by simp
        by_cases hlx : l = x
        · subst hlx
          refine wp_region_cls (Gr wq) (by kernel_rfl) (by kernel_rfl) (Gr.start wq) ?_
          repeat (go_big_quiet_step (fail))
          refine wpQuiet_nil ?_
          intro _ hw'
          obtain ⟨s0, rfl⟩ := hw'
          have hG : Below wq.heap.size wq s0.val := s0.ok
          generalize s0.val = v1 at hG ⊢
          have hB2 := hBq.trans (hG.mono hBq.size)
          clear s0 p0 p1 p2 p3 q0 q1 q2 q3
          go_wp2
          go_roundw
          case rel => exact ⟨k + 1, by omega, by go_num, by rw [hFold.out, keep_same, hlen3]; exact own_below ownq hG, by rw [hFold.out, keep_same]; simp, hB2⟩
          case measure => simp [intOf]; omega
        · have hne := fun W => neq_b hlx W
          have HD : Hid (∀ W : World, Calls Tryz.prog 97 #[.agg #[.int .i64 l.b.num, .int .i64 l.b.den, .int .i64 l.r.num, .int .i64 l.r.den], .agg #[.int .i64 x.b.num, .int .i64 x.b.den, .int .i64 x.r.num, .int .i64 x.r.den]] W fun e w' => e = .returned (.bool (l.domB x)) ∧ Below W.heap.size W w') := fun W => (dominates_r l x W).mono fun _ _ ⟨h, k⟩ => ⟨h, k.b⟩
          obtain ⟨dm, hdm⟩ : ∃ dm, l.domB x = dm := ⟨_, rfl⟩
          rw [hdm] at HD
          cases dm
          · refine wp_region_cls (Gr wq) (by kernel_rfl) (by kernel_rfl) (Gr.start wq) ?_
            repeat (go_big_quiet_step ((go_at_call 97; exact Calls.cls Gr.close (HD.out _))))
            refine wpQuiet_nil ?_
            intro _ hw'
            obtain ⟨s0, rfl⟩ := hw'
            have hG : Below wq.heap.size wq s0.val := s0.ok
            generalize s0.val = v1 at hG ⊢
            have hB2 := hBq.trans (hG.mono hBq.size)
            clear s0 p0 p1 p2 p3 q0 q1 q2 q3
            have own1 := own_below ownq hG
            have bX1 : BoxN v1 bb 80 _ := bX.below hG bX.lt
            have b0 : v1.cell? ⟨bb, 0, none⟩ = some (.int .i64 x.b.num) := bX1.cell 0
            have b1 : v1.cell? ⟨bb, 1, none⟩ = some (.int .i64 x.b.den) := bX1.cell 1
            have b2 : v1.cell? ⟨bb, 2, none⟩ = some (.int .i64 x.r.num) := bX1.cell 2
            have b3 : v1.cell? ⟨bb, 3, none⟩ = some (.int .i64 x.r.den) := bX1.cell 3
            have hsn := Lib.hid (cellsOf_snoc (init ++ [l]) x)
            simp only [Buck.cells] at hsn
            go_wp2_with (at_builtin; refine wpList_append_own _ rfl _ _ 23 rfl w1.heap.size 80 i0 _ 4 32 Tryz.underlying23 hi hz0 hz1 hz2 rfl (by decide) _ _ _ rfl (own1.alloc _) ⟨v1.heap.size, 0, none⟩ 1 1 [.int .i64 x.b.num, .int .i64 x.b.den, .int .i64 x.r.num, .int .i64 x.r.den] rfl rfl (World.news_of_block (cs := #[.int .i64 x.b.num, .int .i64 x.b.den, .int .i64 x.r.num, .int .i64 x.r.den]) (t := 80) (fr := (0, 0)) (heap_alloc_new v1 _)) hone (by unfold maxLen; omega) (by omega) (by have := hB2.size; simp; omega) ?_; intro v' w2 hown' hgrow _; obtain ⟨g', cap3, rfl⟩ := ownsRow_succ hown')
            have hB3 : Below w1.heap.size w1 w2 := (hB2.alloc hB2.size _).grown hgrow (by have := hB2.size; simp; omega) (fun k e => by have e' : some g = some k := e; cases e'; exact hg1)
            have hlen4 : (init ++ [l] ++ [x]).length = m + 1 + 1 := by rw [List.length_append, hlen3]; rfl
            go_roundw
            case rel => exact ⟨k + 1, by omega, by go_num, by rw [hFold.out, keep_more _ hlx hdm, hlen4, hsn.out]; exact hown', by rw [hFold.out, keep_more _ hlx hdm]; simp, hB3⟩
            case measure => simp [intOf]; omega
          · refine wp_region_cls (Gr wq) (by kernel_rfl) (by kernel_rfl) (Gr.start wq) ?_
            repeat (go_big_quiet_step ((go_at_call 97; exact Calls.cls Gr.close (HD.out _))))
            refine wpQuiet_nil ?_
            intro _ hw'
            obtain ⟨s0, rfl⟩ := hw'
            have hG : Below wq.heap.size wq s0.val := s0.ok
            generalize s0.val = v1 at hG ⊢
            have hB2 := hBq.trans (hG.mono hBq.size)
            clear s0 p0 p1 p2 p3 q0 q1 q2 q3
            go_wp2
            go_roundw
            case rel => exact ⟨k + 1, by omega, by go_num, by rw [hFold.out, keep_dom _ hdm, hlen3]; exact own_below ownq hG, by rw [hFold.out, keep_dom _ hdm]; simp, hB2⟩
            case measure => simp [intOf]; omega
    · obtain rfl : k = S.length := by omega
      rw [List.take_length, ← hN.out] at hown hnil
      go_wp2_with fail
      go_ret
      refine ⟨u3, rfl, own_base hown hB1.size, hnil, hB1.trans (hBr.mono hB1.size)⟩
end Go.Proofs.YtbncfknjgldcbaaGreat
/- curve.Valid at every curve. -/
namespace Go.Proofs.YtbncfknjgldcbaaGreat
open Go.RowKit Go.Joins Go.Shelf Go.Sort Num

/-- A bucket as it may come in. -/
structure Bk where
  bn : Int
  bd : Int
  rn : Int
  rd : Int
deriving DecidableEq, Inhabited
abbrev I64 (n : Int) : Prop := -9223372036854775808 ≤ n ∧ n ≤ 9223372036854775807
structure Bk.bd64 (x : Bk) : Prop where
  h1 : I64 x.bn
  h2 : I64 x.bd
  h3 : I64 x.rn
  h4 : I64 x.rd
def Bk.ok (x : Bk) : Bool := amtB x.bn x.bd && amtB x.rn x.rd
def valC (c : List Bk) : Bool := decide (1 ≤ c.length) && decide (c.length ≤ 32) && c.all Bk.ok
def Buck.raw (x : Buck) : Bk := ⟨x.b.num, x.b.den, x.r.num, x.r.den⟩
/-- Block b holds the buckets c from off on. -/
def RawRow (W : World) (b off : Nat) (c : List Bk) : Prop :=
  ∀ j x, c[j]? = some x → W.cell? ⟨b, off + j * 4, none⟩ = some (.int .i64 x.bn) ∧ W.cell? ⟨b, off + j * 4 + 1, none⟩ = some (.int .i64 x.bd) ∧ W.cell? ⟨b, off + j * 4 + 2, none⟩ = some (.int .i64 x.rn) ∧ W.cell? ⟨b, off + j * 4 + 3, none⟩ = some (.int .i64 x.rd)
theorem RawRow.below {B : Nat} {W W' : World} {b off : Nat} {c : List Bk} (h : RawRow W b off c) (hk : Below B W W') (hb : b < B) : RawRow W' b off c := fun j x hx => by
  obtain ⟨h0, h1, h2, h3⟩ := h j x hx
  exact ⟨(hk.cell (p := ⟨b, _, none⟩) hb).trans h0, (hk.cell (p := ⟨b, _, none⟩) hb).trans h1, (hk.cell (p := ⟨b, _, none⟩) hb).trans h2, (hk.cell (p := ⟨b, _, none⟩) hb).trans h3⟩
theorem raw_row {W : World} {b off : Nat} {c : List Buck} : RawRow W b off (c.map Buck.raw) ↔ Row W b off c := by
  constructor
  · intro h j x hx
    exact h j x.raw (by rw [List.getElem?_map, hx]; rfl)
  · intro h j x hx
    rw [List.getElem?_map] at hx
    obtain ⟨y, hy, rfl⟩ := Option.map_eq_some_iff.1 hx
    exact h j y hy
/-- The slice value sv holds the buckets c, in a block below n₀. -/
def SlR (n₀ : Nat) (W : World) (sv : Value) (c : List Bk) : Prop :=
  ∃ A cap, sv = .slice A c.length cap ∧ (c ≠ [] → ∃ b off, A = some ⟨b, off, none⟩ ∧ b < n₀ ∧ RawRow W b off c)
theorem SlR.below {B n₀ : Nat} {W W' : World} {sv : Value} {c : List Bk} (h : SlR n₀ W sv c) (hk : Below B W W') (hn : n₀ ≤ B) : SlR n₀ W' sv c := by
  obtain ⟨A, cap, e, h⟩ := h
  exact ⟨A, cap, e, fun hc => by obtain ⟨b, off, e1, e2, e3⟩ := h hc; exact ⟨b, off, e1, e2, e3.below hk (by omega)⟩⟩
theorem SlR.more {n₀ n₁ : Nat} {W : World} {sv : Value} {c : List Bk} (h : SlR n₀ W sv c) (hn : n₀ ≤ n₁) : SlR n₁ W sv c := by
  obtain ⟨A, cap, e, h⟩ := h
  exact ⟨A, cap, e, fun hc => by obtain ⟨b, off, e1, e2, e3⟩ := h hc; exact ⟨b, off, e1, by omega, e3⟩⟩
theorem Sl.more {n₀ n₁ : Nat} {W : World} {sv : Value} {c : List Buck} (h : Sl n₀ W sv c) (hn : n₀ ≤ n₁) : Sl n₁ W sv c := by
  obtain ⟨A, cap, e, h⟩ := h
  exact ⟨A, cap, e, fun hc => by obtain ⟨b, off, e1, e2, e3⟩ := h hc; exact ⟨b, off, e1, by omega, e3⟩⟩
theorem slR_iff {n₀ : Nat} {W : World} {sv : Value} {c : List Buck} : SlR n₀ W sv (c.map Buck.raw) ↔ Sl n₀ W sv c := by
  unfold SlR Sl
  simp only [List.length_map, ne_eq, List.map_eq_nil_iff, raw_row]
theorem Sl.of_own {W : World} {base : Nat} {v : Value} {c : List Buck} (h : W.ownsRow base 80 4 v c.length (cellsOf c)) (hn : v = .slice none 0 0 ↔ c = []) : Sl W.heap.size W v c := by
  by_cases hc : c = []
  · subst hc
    exact ⟨none, 0, hn.2 rfl, fun h => absurd rfl h⟩
  · obtain ⟨g, cap, rfl, hb, hlt⟩ := h.form (List.length_pos_iff.2 hc)
    exact ⟨_, cap, rfl, fun _ => ⟨g, 0, rfl, hlt, row_of_holdsK (holdsK_of_own h)⟩⟩
theorem raw_ok (x : Buck) : x.raw.ok = true := by
  have h1 := fit_vld x.hb
  have h2 := fit_vld x.hr
  have h3 := Rat.num_nonneg.2 x.pb
  have h4 := Rat.num_nonneg.2 x.pr
  simp [Bk.ok, Buck.raw, amtB, h1, h2, h3, h4]
theorem raw_bd (x : Buck) : x.raw.bd64 := by
  have h1 := fit_bd x.hb
  have h2 := fit_bd x.hr
  constructor <;> (simp only [Buck.raw, I64]; omega)

set_option maxRecDepth 100000 in
set_option maxHeartbeats 4000000 in
theorem valid_c (A : Option Addr) (cap : Nat) (c : List Bk) (hlen : c.length ≤ 1048576) (hbd : ∀ x ∈ c, x.bd64) (w : World) (hI : SlR w.heap.size w (.slice A c.length cap) c) :
    Calls Tryz.prog 12 #[.slice A c.length cap] w fun e w' => e = .returned (.bool (valC c)) ∧ Below w.heap.size w w' := by
  obtain ⟨A', cap', e, hrow⟩ := hI
  simp only [Value.slice.injEq, true_and] at e
  obtain ⟨rfl, rfl⟩ := e
  have HC : Hid (∀ (x : Bk), x.bd64 → ∀ W : World, _) := fun x h W => amount_any x.bn x.bd W h.h1.1 h.h1.2 h.h2.1 h.h2.2
  have HR : Hid (∀ (x : Bk), x.bd64 → ∀ W : World, _) := fun x h W => amount_any x.rn x.rd W h.h3.1 h.h3.2 h.h4.1 h.h4.2
  by_cases h1 : c.length < 1
  · rw [show valC c = false by unfold valC; simp; omega]
    clear hrow HC HR hbd
    have h1' : decide ((c.length : Int) < 1) = true := by simp; omega
    go_enter Tryz.func12, Tryz.ntmps12
    go_wp2_with fail
    go_ret
    exact ⟨rfl, Below.refl _ _⟩
  by_cases h2 : 32 < c.length
  · rw [show valC c = false by unfold valC; simp; omega]
    clear hrow HC HR hbd
    have h1' : decide ((c.length : Int) < 1) = false := by simp; omega
    go_enter Tryz.func12, Tryz.ntmps12
    go_wp2_with fail
    go_ret
    exact ⟨rfl, Below.refl _ _⟩
  have hv : valC c = c.all Bk.ok := by unfold valC; rw [decide_eq_true (by omega), decide_eq_true (by omega)]; rfl
  rw [hv]
  clear hv
  obtain ⟨b, off, rfl, hb, hr⟩ := hrow (by intro h; subst h; simp at h1)
  have h1' : decide ((c.length : Int) < 1) = false := by simp; omega
  have h2' : ¬ (32 : Int) < c.length := by omega
  go_enter Tryz.func12, Tryz.ntmps12
  go_wp2_with fail
  go_loopw [15] (fun i wr => ∃ k : Nat, k ≤ c.length ∧ i = .int .i64 k ∧ (c.take k).all Bk.ok = true ∧ Below w.heap.size w wr)
    (fun i _ => c.length - (intOf i).toNat)
  case atStart => exact ⟨0, Nat.zero_le _, rfl, by simp, Below.refl _ _⟩
  case round =>
    obtain ⟨k, hk, rfl, hall, hBr⟩ := hrel
    by_cases hlt : k < c.length
    · have hx : c[k]? = some c[k] := List.getElem?_eq_getElem hlt
      obtain ⟨x, hxe⟩ : ∃ x, c[k] = x := ⟨_, rfl⟩
      rw [hxe] at hx
      have hts := take_succ' hx
      have hall2 : Hid ((c.take (k + 1)).all Bk.ok = x.ok) := by unfold Hid; rw [hts, List.all_append, hall]; simp
      have hmem : x ∈ c := List.mem_of_getElem? hx
      have hno : Hid (x.ok = false → c.all Bk.ok = false) := fun h => by rw [List.all_eq_false]; exact ⟨x, hmem, by simp [h]⟩
      have C1 := fun W => HC.out x (hbd x hmem) W
      have C2 := fun W => HR.out x (hbd x hmem) W
      have C1 := Lib.hid C1
      have C2 := Lib.hid C2
      obtain ⟨c0, c1, c2, c3⟩ := hr.below hBr hb k x hx
      have hwz := hBr.size
      clear hx hxe hts hall
      have hok : Hid (x.ok = (amtB x.bn x.bd && amtB x.rn x.rd)) := rfl
      generalize amtB x.bn x.bd = a1 at C1 hok
      generalize amtB x.rn x.rd = a2 at C2 hok
      cases a1
      · go_wp2_with fail
        refine (C1.out _).mono ?_; rintro e w1 ⟨rfl, hb1⟩
        have hB1 := below_allocs1 hBr hBr.size hb1.b
        go_wp2
        go_ret
        exact ⟨ret_bool (hno.out hok.out).symm, hB1⟩
      · go_wp2_with fail
        refine (C1.out _).mono ?_; rintro e w1 ⟨rfl, hb1⟩
        have hB1 := below_allocs1 hBr hBr.size hb1.b
        obtain ⟨hc, hf⟩ := bcell hb1.b
        have hz := hb1.b.size
        simp only [World.size_alloc] at hc hf hz
        go_wp2_with fail
        refine (C2.out _).mono ?_; rintro e w2 ⟨rfl, hb2⟩
        have hB2 : Below w.heap.size w w2 := hB1.trans (hb2.b.mono hB1.size)
        cases a2
        · go_wp2
          go_ret
          exact ⟨ret_bool (hno.out hok.out).symm, hB2⟩
        · go_wp2
          go_roundw
          case rel => exact ⟨k + 1, by omega, by go_num, by rw [hall2.out]; exact hok.out, hB2⟩
          case measure => simp [intOf]; omega
    · obtain rfl : k = c.length := by omega
      rw [List.take_length] at hall
      go_wp2_with fail
      go_ret
      exact ⟨ret_bool hall.symm, hBr⟩
end Go.Proofs.YtbncfknjgldcbaaGreat
/- curve.At. -/
namespace Go.Proofs.YtbncfknjgldcbaaGreat
open Go.RowKit Go.Joins Go.Shelf Go.Sort Num

theorem BoxN.set1 {W : World} {B : Nat} {t : TypeId} {cs : Array Value} (i : Nat) (u : Value) (h : BoxN W B t cs) : BoxN (W.setCell ⟨B, i, none⟩ u) B t (cs.setIfInBounds i u) := by
  unfold BoxN at h ⊢
  simp [World.setCell, Array.getElem?_modify, h]
theorem BoxN.set2 {W : World} {B : Nat} {t : TypeId} {x y : Value} (u v : Value) (h : BoxN W B t #[x, y]) : BoxN ((W.setCell ⟨B, 0, none⟩ u).setCell ⟨B, 1, none⟩ v) B t #[u, v] := (h.set1 0 u).set1 1 v
theorem BoxN.frozen {W : World} {B : Nat} {t : TypeId} {cs : Array Value} (h : BoxN W B t cs) (i : Nat) : W.frozen? ⟨B, i, none⟩ = false := by
  unfold BoxN at h
  simp [World.frozen?, h]

/-- The value of a bucket, and when it can be computed. -/
def valQ (x : Buck) (t : Rat) : Rat := x.b + x.r * t
def okv (x : Buck) (t : Rat) : Prop := Fit (x.r * t) ∧ Fit (valQ x t)
instance (x : Buck) (t : Rat) : Decidable (okv x t) := inferInstanceAs (Decidable (_ ∧ _))
theorem valV_ok {x : Buck} {t : Rat} (h : okv x t) : valV x.b x.r t = ((valQ x t).num, ((valQ x t).den : Int), 0) := by
  unfold valV; rw [if_pos h.1]; exact ofR_yes h.2
theorem valV_no {x : Buck} {t : Rat} (h : ¬ okv x t) : valV x.b x.r t = (0, 0, 3) := by
  unfold valV
  split
  · rename_i h1; exact ofR_no fun h2 => h ⟨h1, h2⟩
  · rfl
def minStep (t : Rat) (m : Rat) (y : Buck) : Rat := if valQ y t < m then valQ y t else m
/-- The least value. -/
def minV (c : List Buck) (t : Rat) : Rat := match c with | [] => 0 | x :: l => l.foldl (minStep t) (valQ x t)
theorem minV_one (x : Buck) (t : Rat) : minV [x] t = valQ x t := rfl
theorem minV_snoc (c : List Buck) (x : Buck) (t : Rat) (h : c ≠ []) : minV (c ++ [x]) t = minStep t (minV c t) x := by
  cases c with
  | nil => exact absurd rfl h
  | cons y c => simp [minV, List.foldl_append]
theorem minV_fit {c : List Buck} {t : Rat} (h : ∀ x ∈ c, okv x t) (hc : c ≠ []) : Fit (minV c t) := by
  cases c with
  | nil => exact absurd rfl hc
  | cons x l =>
    unfold minV
    have : ∀ (l : List Buck) (m : Rat), Fit m → (∀ x ∈ l, okv x t) → Fit (l.foldl (minStep t) m) := by
      intro l
      induction l with
      | nil => intro m hm _; exact hm
      | cons y l ih =>
        intro m hm hl
        rw [List.foldl_cons]
        refine ih _ ?_ fun z hz => hl z (List.mem_cons_of_mem _ hz)
        unfold minStep
        split
        · exact (hl y List.mem_cons_self).2
        · exact hm
    exact this l _ (h x List.mem_cons_self).2 fun z hz => h z (List.mem_cons_of_mem _ hz)
def atV (c : List Buck) (t : Rat) : Int × Int × Int := if ∀ x ∈ c, okv x t then ((minV c t).num, ((minV c t).den : Int), 0) else (0, 0, 3)

section
variable (A : Option Addr) (cap : Nat)
set_option maxHeartbeats 1000000 in
theorem at_bad (c : List Bk) (tn td : Int) (hlen : c.length ≤ 1048576) (hbd : ∀ x ∈ c, x.bd64) (h1 : I64 tn) (h2 : I64 td) (w : World) (hI : SlR w.heap.size w (.slice A c.length cap) c) (hbad : (valC c && amtB tn td) = false) :
    Calls Tryz.prog 8 #[.slice A c.length cap, .agg #[.int .i64 tn, .int .i64 td]] w fun e w' => e = .returned (ratV (0, 0, 2)) ∧ Below w.heap.size w w' := by
  have HV : Hid (∀ W : World, Below w.heap.size w W → _) := fun W hb => valid_c A cap c hlen hbd W ((hI.below hb (Nat.le_refl _)).more hb.size)
  have HT : Hid (∀ W : World, _) := fun W => amount_any tn td W h1.1 h1.2 h2.1 h2.2
  clear hI hbd
  simp only [ratV]
  generalize valC c = vc at hbad HV
  generalize amtB tn td = va at hbad HT
  cases vc
  · go_enter Tryz.func8, Tryz.ntmps8
    go_wp2_with fail
    refine (HV.out _ (((Below.refl _ w).alloc (Nat.le_refl _) _).alloc (by simp) _)).mono ?_; rintro e w1 ⟨rfl, hb1⟩
    obtain ⟨hc, hf⟩ := bcell hb1
    have hz := hb1.size
    simp only [World.size_alloc] at hc hf hz
    have hB : Below w.heap.size w w1 := (((Below.refl _ w).alloc (Nat.le_refl _) _).alloc (by simp) _).trans (hb1.mono (by simp; omega))
    go_wp2
    refine bodyPost_ret (v := ratV (0, 0, 2)) (by simp [results, Tryz.results8, go_sem, ratV, hc]) rfl ⟨rfl, ?_⟩
    (have hBs := hB.size; (try simp only [World.size_alloc] at hBs); repeat' (first | (with_reducible exact hB) | (with_reducible exact hBs) | (with_reducible refine Below.drew ?_) | (with_reducible refine below_drewN ?_ _) | (with_reducible refine Below.setCell ?_ ?_ _) | (with_reducible refine Below.alloc ?_ ?_ _) | go_size | omega | (simp; omega)))
  · obtain rfl : va = false := by simpa using hbad
    go_enter Tryz.func8, Tryz.ntmps8
    go_wp2_with fail
    refine (HV.out _ (((Below.refl _ w).alloc (Nat.le_refl _) _).alloc (by simp) _)).mono ?_; rintro e w1 ⟨rfl, hb1⟩
    obtain ⟨hc, hf⟩ := bcell hb1
    have hz := hb1.size
    simp only [World.size_alloc] at hc hf hz
    go_wp2_with fail
    refine (HT.out _).mono ?_; rintro e w2 ⟨rfl, hb2⟩
    replace hb2 := bnext hb1 hb2.b
    clear hc hf hz hb1
    obtain ⟨hc, hf⟩ := bcell hb2
    have hz := hb2.size
    simp only [World.size_alloc] at hc hf hz
    have hB : Below w.heap.size w w2 := (((Below.refl _ w).alloc (Nat.le_refl _) _).alloc (by simp) _).trans (hb2.mono (by simp; omega))
    go_wp2
    refine bodyPost_ret (v := ratV (0, 0, 2)) (by simp [results, Tryz.results8, go_sem, ratV, hc]) rfl ⟨rfl, ?_⟩
    (have hBs := hB.size; (try simp only [World.size_alloc] at hBs); repeat' (first | (with_reducible exact hB) | (with_reducible exact hBs) | (with_reducible refine Below.drew ?_) | (with_reducible refine below_drewN ?_ _) | (with_reducible refine Below.setCell ?_ ?_ _) | (with_reducible refine Below.alloc ?_ ?_ _) | go_size | omega | (simp; omega)))

set_option maxRecDepth 100000 in
set_option maxHeartbeats 4000000 in
theorem at_ok (c : List Buck) (t : Rat) (hl1 : 1 ≤ c.length) (hl2 : c.length ≤ 32) (ht : Fit t) (ht0 : 0 ≤ t) (w : World) (hI : Sl w.heap.size w (.slice A c.length cap) c) :
    Calls Tryz.prog 8 #[.slice A c.length cap, .agg #[.int .i64 t.num, .int .i64 t.den]] w fun e w' => e = .returned (ratV (atV c t)) ∧ Below w.heap.size w w' := by
  have hval : valC (c.map Buck.raw) = true := by
    unfold valC
    rw [List.length_map, decide_eq_true hl1, decide_eq_true hl2, Bool.true_and, Bool.true_and, List.all_eq_true]
    intro x hx
    obtain ⟨y, -, rfl⟩ := List.mem_map.1 hx
    exact raw_ok y
  have htb := fit_bd ht
  have HV : Hid (∀ W : World, Below w.heap.size w W → Calls Tryz.prog 12 #[.slice A c.length cap] W fun e w' => e = .returned (.bool true) ∧ Below W.heap.size W w') := fun W hb => by
    have := valid_c A cap (c.map Buck.raw) (by simp; omega) (fun x hx => by obtain ⟨y, -, rfl⟩ := List.mem_map.1 hx; exact raw_bd y) W (by simpa using slR_iff.2 ((hI.below hb (Nat.le_refl _)).more hb.size))
    rw [hval] at this
    simpa using this
  have HT : Hid (∀ W : World, Calls Tryz.prog 49 #[.agg #[.int .i64 t.num, .int .i64 t.den]] W fun e w' => e = .returned (.bool true) ∧ Lays W w') := fun W => by
    have := amount_any t.num t.den W (by omega) (by omega) (by omega) (by omega)
    rwa [show amtB t.num t.den = true by unfold amtB; rw [fit_vld ht]; simp [Rat.num_nonneg.2 ht0]] at this
  have HX : Hid (∀ (x : Buck) (W : World), _) := fun x W => value_r x.hb x.hr ht W
  obtain ⟨A', cap', e, hrow⟩ := hI
  simp only [Value.slice.injEq, true_and] at e
  obtain ⟨rfl, rfl⟩ := e
  obtain ⟨b, off, rfl, hb, hr⟩ := hrow (by intro h; subst h; simp at hl1)
  clear hrow hval ht ht0 htb
  generalize htn : t.num = tn at HT HX
  generalize htd : (t.den : Int) = td at HT HX
  clear htn htd
  go_enter Tryz.func8, Tryz.ntmps8
  go_wp2_with fail
  refine (HV.out _ (((Below.refl _ w).alloc (Nat.le_refl _) _).alloc (by simp) _)).mono ?_; rintro e w1 ⟨rfl, hb1⟩
  obtain ⟨hc, hf⟩ := bcell hb1
  have hz := hb1.size
  simp only [World.size_alloc] at hc hf hz
  go_wp2_with fail
  refine (HT.out _).mono ?_; rintro e w2 ⟨rfl, hb2⟩
  replace hb2 := bnext hb1 hb2.b
  clear hc hf hz hb1
  have bT : BoxN w2 w.heap.size 25 #[.int .i64 tn, .int .i64 td] := ((BoxN.new w _ _).alloc _).below hb2 (by simp; omega)
  have bR : BoxN w2 (w.heap.size + 1) 25 #[.int .i64 0, .int .i64 0] := by
    have := (BoxN.new (w.alloc (.cells #[.int .i64 tn, .int .i64 td] 25)) 25 #[.int .i64 0, .int .i64 0]).below hb2 (by simp)
    simpa using this
  have hB2 : Below w.heap.size w w2 := (((Below.refl _ w).alloc (Nat.le_refl _) _).alloc (by simp) _).trans (hb2.mono (by simp; omega))
  clear hb2 HV HT
  go_wp2_with fail
  go_loopw [22] (fun i wr => ∃ (k : Nat) (mn md : Int), k ≤ c.length ∧ i = .int .i64 k ∧ (∀ x ∈ c.take k, okv x t) ∧ (k = 0 ∨ mn = (minV (c.take k) t).num ∧ md = (minV (c.take k) t).den) ∧ BoxN wr w2.heap.size 25 #[.int .i64 mn, .int .i64 md] ∧ Below w2.heap.size w2 wr)
    (fun i _ => c.length - (intOf i).toNat)
  case atStart => exact ⟨0, 0, 0, Nat.zero_le _, rfl, by simp, .inl rfl, BoxN.new _ _ _, (Below.refl _ _).alloc (Nat.le_refl _) _⟩
  case round =>
    obtain ⟨k, mn, md, hk, rfl, hall, hm, bM, hBr⟩ := hrel
    by_cases hlt : k < c.length
    · have hx : c[k]? = some c[k] := List.getElem?_eq_getElem hlt
      obtain ⟨x, hxe⟩ : ∃ x, c[k] = x := ⟨_, rfl⟩
      rw [hxe] at hx
      have hts := take_succ' hx
      have hmem : x ∈ c := List.mem_of_getElem? hx
      obtain ⟨c0, c1, c2, c3⟩ := (hr.below hB2 hb).below hBr (Nat.lt_of_lt_of_le hb hB2.size) k x hx
      have hz2 : w.heap.size + 1 < w2.heap.size := bR.lt
      have hwz := hBr.size
      have bT1 := bT.below hBr (by omega)
      have bR1 := bR.below hBr (by omega)
      have t0 : wr.cell? ⟨w.heap.size, 0, none⟩ = some (.int .i64 tn) := bT1.cell 0
      have t1 : wr.cell? ⟨w.heap.size, 1, none⟩ = some (.int .i64 td) := bT1.cell 1
      have kT : w.heap.size < wr.heap.size := by omega
      have HXx := HX.out x
      clear HX hx hxe
      by_cases hok : okv x t
      · have hall2 : Hid (∀ y ∈ c.take (k + 1), okv y t) := by
          intro y hy
          rw [hts, List.mem_append] at hy
          rcases hy with hy | hy
          · exact hall y hy
          · simp at hy; subst hy; exact hok
        have hfv : Fit (valQ x t) := hok.2
        rw [valV_ok hok] at HXx
        have HXx := Lib.hid HXx
        simp only [ratV] at HXx
        by_cases hk0 : k = 0
        · subst hk0
          have hmin : Hid (minV (c.take (0 + 1)) t = valQ x t) := by unfold Hid; rw [hts]; simp [minV]
          simp only [Nat.zero_mul, Nat.add_zero] at c0 c1 c2 c3
          clear hts hall hm
          obtain ⟨vn, hvn⟩ : ∃ vn, (valQ x t).num = vn := ⟨_, rfl⟩
          obtain ⟨vd, hvd⟩ : ∃ vd : Int, ((valQ x t).den : Int) = vd := ⟨_, rfl⟩
          rw [hvn, hvd] at HXx
          have Hvn := Lib.hid hvn
          have Hvd := Lib.hid hvd
          clear hvn hvd
          go_wp2_with fail
          refine (HXx.out _).mono ?_; rintro e w3 ⟨rfl, hb3⟩
          have bM3 := (bM.alloc (.cells #[.int .i64 x.b.num, .int .i64 x.b.den, .int .i64 x.r.num, .int .i64 x.r.den] 80)).below hb3 (by simp; omega)
          have hB3 := (below_allocs1 hBr hwz hb3)
          have f0 := bM3.frozen 0
          have f1 := bM3.frozen 1
          have m0 : w3.cell? ⟨w2.heap.size, 0, none⟩ = some (.int .i64 mn) := bM3.cell 0
          have m1 : w3.cell? ⟨w2.heap.size, 1, none⟩ = some (.int .i64 md) := bM3.cell 1
          have kM : w2.heap.size < w3.heap.size := bM3.lt
          clear hb3
          go_wp2
          go_roundw
          case rel => exact ⟨1, vn, vd, hl1, by go_num, hall2.out, .inr ⟨by rw [hmin.out, Hvn.out], by rw [hmin.out, Hvd.out]⟩, (bM3.set2 _ _).alloc _, ((hB3.setCell (p := ⟨w2.heap.size, 0, none⟩) (Nat.le_refl _) _).setCell (p := ⟨w2.heap.size, 1, none⟩) (Nat.le_refl _) _).alloc (by have := hB3.size; simp [World.setCell]; omega) _⟩
          case measure => simp [intOf]; omega
        · have hkm : c.take k ≠ [] := by intro h; rw [List.take_eq_nil_iff] at h; rcases h with h | h; exact hk0 h; subst h; simp at hlt
          have hmin : Hid (minV (c.take (k + 1)) t = minStep t (minV (c.take k) t) x) := by unfold Hid; rw [hts, minV_snoc _ _ _ hkm]
          have hfm := minV_fit hall hkm
          have HC : ∀ W : World, _ := fun W => cmp_r hfv hfm W
          have hcq := @cmpQ_neg (valQ x t) (minV (c.take k) t)
          obtain ⟨cq, hcqe⟩ : ∃ cq, cmpQ (valQ x t) (minV (c.take k) t) = cq := ⟨_, rfl⟩
          rw [hcqe] at HC hcq
          have hm' : mn = (minV (c.take k) t).num ∧ md = (minV (c.take k) t).den := by
            rcases hm with h | h
            · exact absurd h hk0
            · exact h
          rw [← hm'.1, ← hm'.2] at HC
          have hk0b : ((k : Int) == 0) = false := by simp [hk0]
          obtain ⟨vn, hvn⟩ : ∃ vn, (valQ x t).num = vn := ⟨_, rfl⟩
          obtain ⟨vd, hvd⟩ : ∃ vd : Int, ((valQ x t).den : Int) = vd := ⟨_, rfl⟩
          rw [hvn, hvd] at HXx HC
          have HC := Lib.hid HC
          have Hvn := Lib.hid hvn
          have Hvd := Lib.hid hvd
          have Hm := Lib.hid hm'
          have hk1 : k + 1 ≤ c.length := hlt
          have Hcq : Hid (cq < 0 ↔ valQ x t < minV (c.take k) t) := hcq
          clear hvn hvd hm hm' hts hall hcq hcqe hkm hfm hk0
          go_wp2_with fail
          refine (HXx.out _).mono ?_; rintro e w3 ⟨rfl, hb3⟩
          have bM3 := ((bM.alloc (.cells #[.int .i64 x.b.num, .int .i64 x.b.den, .int .i64 x.r.num, .int .i64 x.r.den] 80)).below hb3 (by simp; omega)).alloc (.cells #[.int .i64 vn, .int .i64 vd] 25)
          have hB3 := (below_allocs1 hBr hwz hb3)
          have hB4 := hB3.alloc hB3.size (.cells #[.int .i64 vn, .int .i64 vd] 25)
          have m0 : (w3.alloc (.cells #[.int .i64 vn, .int .i64 vd] 25)).cell? ⟨w2.heap.size, 0, none⟩ = some (.int .i64 mn) := bM3.cell 0
          have m1 : (w3.alloc (.cells #[.int .i64 vn, .int .i64 vd] 25)).cell? ⟨w2.heap.size, 1, none⟩ = some (.int .i64 md) := bM3.cell 1
          have bV := BoxN.new w3 25 #[.int .i64 vn, .int .i64 vd]
          have kM : w2.heap.size < w3.heap.size := by have h1 := hb3.size; have h2 := bM.lt; simp at h1; omega
          clear hb3
          go_wp2_with fail
          refine (HC.out _).mono ?_; rintro e w5 ⟨rfl, hb5⟩
          have bM5 := bM3.below hb5.b bM3.lt
          have bV5 := bV.below hb5.b bV.lt
          have hB5 : Below w2.heap.size w2 w5 := hB4.trans (hb5.b.mono hB4.size)
          have v0 : w5.cell? ⟨w3.heap.size, 0, none⟩ = some (.int .i64 vn) := bV5.cell 0
          have v1 : w5.cell? ⟨w3.heap.size, 1, none⟩ = some (.int .i64 vd) := bV5.cell 1
          have n0 : w5.cell? ⟨w2.heap.size, 0, none⟩ = some (.int .i64 mn) := bM5.cell 0
          have n1 : w5.cell? ⟨w2.heap.size, 1, none⟩ = some (.int .i64 md) := bM5.cell 1
          have f0 := bM5.frozen 0
          have f1 := bM5.frozen 1
          clear m0 m1 hb5
          by_cases hq : cq < 0
          · have hlq : Hid (valQ x t < minV (c.take k) t) := Hcq.out.1 hq
            go_wp2
            go_roundw
            case rel => exact ⟨k + 1, vn, vd, hk1, by go_num, hall2.out, .inr ⟨by rw [hmin.out, minStep, if_pos hlq.out, Hvn.out], by rw [hmin.out, minStep, if_pos hlq.out, Hvd.out]⟩, bM5.set2 _ _, (hB5.setCell (p := ⟨w2.heap.size, 0, none⟩) (Nat.le_refl _) _).setCell (p := ⟨w2.heap.size, 1, none⟩) (Nat.le_refl _) _⟩
            case measure => simp [intOf]; omega
          · have hlq : Hid (¬ valQ x t < minV (c.take k) t) := fun h => hq (Hcq.out.2 h)
            go_wp2
            go_roundw
            case rel => exact ⟨k + 1, mn, md, hk1, by go_num, hall2.out, .inr ⟨by rw [hmin.out, minStep, if_neg hlq.out]; exact Hm.out.1, by rw [hmin.out, minStep, if_neg hlq.out]; exact Hm.out.2⟩, bM5, hB5⟩
            case measure => simp [intOf]; omega
      · have hno : Hid (atV c t = (0, 0, 3)) := if_neg fun h => hok (h x hmem)
        rw [valV_no hok] at HXx
        have HXx := Lib.hid HXx
        simp only [ratV] at HXx
        clear hts hall hm
        go_wp2_with fail
        refine (HXx.out _).mono ?_; rintro e w3 ⟨rfl, hb3⟩
        have bR3 := (bR1.alloc (.cells #[.int .i64 x.b.num, .int .i64 x.b.den, .int .i64 x.r.num, .int .i64 x.r.den] 80)).below hb3 (by simp; omega)
        have hB3 := below_allocs1 hBr hwz hb3
        have r0 : w3.cell? ⟨w.heap.size + 1, 0, none⟩ = some (.int .i64 0) := bR3.cell 0
        have r1 : w3.cell? ⟨w.heap.size + 1, 1, none⟩ = some (.int .i64 0) := bR3.cell 1
        have f0 := bR3.frozen 0
        have f1 := bR3.frozen 1
        have kR : w.heap.size + 1 < w3.heap.size := bR3.lt
        have hB : Below w.heap.size w w3 := hB2.trans (hB3.mono hB2.size)
        clear hb3
        go_wp2
        refine bodyPost_ret (v := ratV (0, 0, 3)) (by simp [results, Tryz.results8, go_sem, ratV, r0, r1, kR]) rfl ⟨by rw [hno.out], ?_⟩
        (have hBs := hB.size; (try simp only [World.size_alloc] at hBs); repeat' (first | (with_reducible exact hB) | (with_reducible exact hBs) | (with_reducible refine Below.drew ?_) | (with_reducible refine below_drewN ?_ _) | (with_reducible refine Below.setCell ?_ ?_ _) | (with_reducible refine Below.alloc ?_ ?_ _) | go_size | omega | (simp; omega)))
    · obtain rfl : k = c.length := by omega
      rw [List.take_length] at hall hm
      have hm' : mn = (minV c t).num ∧ md = (minV c t).den := by
        rcases hm with h | h
        · omega
        · exact h
      have hz2 : w.heap.size + 1 < w2.heap.size := bR.lt
      have hres : Hid (atV c t = (mn, md, 0)) := by unfold Hid atV; rw [if_pos hall, hm'.1, hm'.2]
      have m0 : wr.cell? ⟨w2.heap.size, 0, none⟩ = some (.int .i64 mn) := bM.cell 0
      have m1 : wr.cell? ⟨w2.heap.size, 1, none⟩ = some (.int .i64 md) := bM.cell 1
      have bR1 := bR.below hBr (by omega)
      have r0 : wr.cell? ⟨w.heap.size + 1, 0, none⟩ = some (.int .i64 0) := bR1.cell 0
      have r1 : wr.cell? ⟨w.heap.size + 1, 1, none⟩ = some (.int .i64 0) := bR1.cell 1
      have f0 := bR1.frozen 0
      have f1 := bR1.frozen 1
      have hB : Below w.heap.size w wr := hB2.trans (hBr.mono hB2.size)
      clear hm hm' hall
      go_wp2_with fail
      refine bodyPost_ret (v := ratV (mn, md, 0)) (by simp [results, Tryz.results8, go_sem, ratV, r0, r1]) rfl ⟨by rw [hres.out], ?_⟩
      (have hBs := hB.size; (try simp only [World.size_alloc] at hBs); repeat' (first | (with_reducible exact hB) | (with_reducible exact hBs) | (with_reducible refine Below.drew ?_) | (with_reducible refine below_drewN ?_ _) | (with_reducible refine Below.setCell ?_ ?_ _) | (with_reducible refine Below.alloc ?_ ?_ _) | go_size | omega | (simp; omega)))
end
end Go.Proofs.YtbncfknjgldcbaaGreat
/- curve.Norm and curve.Shift. -/
namespace Go.Proofs.YtbncfknjgldcbaaGreat
open Go.RowKit Go.Joins Go.Shelf Go.Sort Num

/-- The slice v is the call's own and holds the buckets c; it is nil just where there is none. -/
def Own4 (base : Nat) (W : World) (v : Value) (c : List Buck) : Prop := W.ownsRow base 80 4 v c.length (cellsOf c) ∧ (v = .slice none 0 0 ↔ c = [])
theorem Own4.below {base : Nat} {W W' : World} {v : Value} {c : List Buck} (h : Own4 base W v c) (hb : Below W.heap.size W W') : Own4 base W' v c := ⟨own_below h.1 hb, h.2⟩
theorem Own4.base {base base' : Nat} {W : World} {v : Value} {c : List Buck} (h : Own4 base W v c) (hb : base' ≤ base) : Own4 base' W v c := ⟨own_base h.1 hb, h.2⟩
theorem Own4.sl {base : Nat} {W : World} {v : Value} {c : List Buck} (h : Own4 base W v c) : Sl W.heap.size W v c := Sl.of_own h.1 h.2
theorem Own4.form {base : Nat} {W : World} {v : Value} {c : List Buck} (h : Own4 base W v c) : ∃ A cap, v = .slice A c.length cap := by
  obtain ⟨A, cap, e, _⟩ := h.sl
  exact ⟨A, cap, e⟩

theorem val_true {c : List Buck} (hl1 : 1 ≤ c.length) (hl2 : c.length ≤ 32) : valC (c.map Buck.raw) = true := by
  unfold valC
  rw [List.length_map, decide_eq_true hl1, decide_eq_true hl2, Bool.true_and, Bool.true_and, List.all_eq_true]
  intro x hx
  obtain ⟨y, -, rfl⟩ := List.mem_map.1 hx
  exact raw_ok y
theorem valid_ok {A : Option Addr} {cap : Nat} {c : List Buck} (hl1 : 1 ≤ c.length) (hl2 : c.length ≤ 32) {W : World} (hI : Sl W.heap.size W (.slice A c.length cap) c) :
    Calls Tryz.prog 12 #[.slice A c.length cap] W fun e w' => e = .returned (.bool true) ∧ Below W.heap.size W w' := by
  have := valid_c A cap (c.map Buck.raw) (by simp; omega) (fun x hx => by obtain ⟨y, -, rfl⟩ := List.mem_map.1 hx; exact raw_bd y) W (by simpa using slR_iff.2 hI)
  rw [val_true hl1 hl2] at this
  simpa using this
theorem amt_true {t : Rat} (ht : Fit t) (ht0 : 0 ≤ t) : amtB t.num t.den = true := by unfold amtB; rw [fit_vld ht]; simp [Rat.num_nonneg.2 ht0]
theorem amount_ok {t : Rat} (ht : Fit t) (ht0 : 0 ≤ t) (W : World) :
    Calls Tryz.prog 49 #[.agg #[.int .i64 t.num, .int .i64 t.den]] W fun e w' => e = .returned (.bool true) ∧ Below W.heap.size W w' := by
  have htb := fit_bd ht
  have := amount_any t.num t.den W (by omega) (by omega) (by omega) (by omega)
  rw [amt_true ht ht0] at this
  exact this.mono fun _ _ ⟨h, k⟩ => ⟨h, k.b⟩

section
variable (A : Option Addr) (cap : Nat)
theorem norm_bad (c : List Bk) (hlen : c.length ≤ 1048576) (hbd : ∀ x ∈ c, x.bd64) (w : World) (hI : SlR w.heap.size w (.slice A c.length cap) c) (hbad : valC c = false) :
    Calls Tryz.prog 15 #[.slice A c.length cap] w fun e w' => e = .returned (.tuple #[.slice none 0 0, .int .i64 2]) ∧ Below w.heap.size w w' := by
  have HV := valid_c A cap c hlen hbd w hI
  rw [hbad] at HV
  clear hI hbd hbad
  go_enter Tryz.func15, Tryz.ntmps15
  go_wp2_with fail
  refine HV.mono ?_; rintro e w1 ⟨rfl, hb1⟩
  go_wp2
  go_ret2
  exact ⟨rfl, hb1⟩
theorem norm_ok (c : List Buck) (hl1 : 1 ≤ c.length) (hl2 : c.length ≤ 32) (w : World) (hI : Sl w.heap.size w (.slice A c.length cap) c) :
    Calls Tryz.prog 15 #[.slice A c.length cap] w fun e w' => ∃ v, e = .returned (.tuple #[v, .int .i64 0]) ∧ Own4 w.heap.size w' v (normL c) ∧ Below w.heap.size w w' := by
  have HV := valid_ok hl1 hl2 hI
  have HN : Hid (∀ W : World, Below w.heap.size w W → _) := fun W hb => normal_any A cap c (by omega) W ((hI.below hb (Nat.le_refl _)).more hb.size)
  clear hI
  go_enter Tryz.func15, Tryz.ntmps15
  go_wp2_with fail
  refine HV.mono ?_; rintro e w1 ⟨rfl, hb1⟩
  have hN := HN.out _ hb1
  clear HN HV
  go_wp2_with fail
  refine hN.mono ?_; rintro e w2 ⟨v, rfl, h1, h2, h3⟩
  have hO : Hid (Own4 w1.heap.size w2 v (normL c)) := ⟨h1, h2⟩
  clear h1 h2
  go_wp2
  go_ret2
  exact ⟨v, rfl, hO.out.base hb1.size, hb1.trans (h3.mono hb1.size)⟩
end

/-- A bucket out of two numbers. -/
def mkBuck (b r : Rat) : Buck := if h : (Fit b ∧ Fit r) ∧ (0 ≤ b ∧ 0 ≤ r) then ⟨b, r, h.1.1, h.1.2, h.2.1, h.2.2⟩ else default
theorem mk_b {b r : Rat} (h : (Fit b ∧ Fit r) ∧ (0 ≤ b ∧ 0 ≤ r)) : (mkBuck b r).b = b := by unfold mkBuck; rw [dif_pos h]
theorem mk_r {b r : Rat} (h : (Fit b ∧ Fit r) ∧ (0 ≤ b ∧ 0 ≤ r)) : (mkBuck b r).r = r := by unfold mkBuck; rw [dif_pos h]
def shiftB (t : Rat) (x : Buck) : Buck := mkBuck (valQ x t) x.r
theorem val_nonneg {x : Buck} {t : Rat} (ht : 0 ≤ t) : 0 ≤ valQ x t := Rat.add_nonneg x.pb (Rat.mul_nonneg x.pr ht)
theorem shift_h {x : Buck} {t : Rat} (ht : 0 ≤ t) (h : okv x t) : (Fit (valQ x t) ∧ Fit x.r) ∧ (0 ≤ valQ x t ∧ 0 ≤ x.r) := ⟨⟨h.2, x.hr⟩, val_nonneg ht, x.pr⟩
theorem shift_cells {x : Buck} {t : Rat} (ht : 0 ≤ t) (h : okv x t) : (shiftB t x).cells = [.int .i64 (valQ x t).num, .int .i64 (valQ x t).den, .int .i64 x.r.num, .int .i64 x.r.den] := by
  unfold shiftB Buck.cells
  rw [mk_b (shift_h ht h), mk_r (shift_h ht h)]
end Go.Proofs.YtbncfknjgldcbaaGreat
/- curve.Shift. -/
namespace Go.Proofs.YtbncfknjgldcbaaGreat
open Go.RowKit Go.Joins Go.Shelf Go.Sort Num

def ShiftPost (c : List Buck) (t : Rat) (w : World) (e : Ending) (w' : World) : Prop :=
  ((∀ x ∈ c, okv x t) → ∃ v, e = .returned (.tuple #[v, .int .i64 0]) ∧ Own4 w.heap.size w' v (normL (c.map (shiftB t)))) ∧ ((¬ ∀ x ∈ c, okv x t) → e = .returned (.tuple #[.slice none 0 0, .int .i64 3])) ∧ Below w.heap.size w w'

theorem own_block {w : World} {base : Nat} {e : TypeId} {size n : Nat} {v : Value} {xs : List Value} (h : w.ownsRow base e size v n xs) : v = .slice none 0 0 ∨ ∃ g, v.ownBlock = some g ∧ base ≤ g ∧ g < w.heap.size := by
  rcases h.2 with ⟨h, _⟩ | ⟨g', cap', cur, e1, e2, e3, _⟩
  · exact .inl h
  · subst e1
    exact .inr ⟨g', rfl, e2, (Array.getElem?_eq_some_iff.1 e3).1⟩
theorem own_block_le {w : World} {base : Nat} {e : TypeId} {size n : Nat} {v : Value} {xs : List Value} (h : w.ownsRow base e size v n xs) {j : Nat} (hj : v.ownBlock = some j) : base ≤ j := by
  rcases own_block h with rfl | ⟨g, h1, h2, _⟩
  · cases hj
  · rw [h1] at hj; cases hj; exact h2

section
variable (A : Option Addr) (cap : Nat)
set_option maxHeartbeats 1000000 in
theorem shift_bad (c : List Bk) (tn td : Int) (hlen : c.length ≤ 1048576) (hbd : ∀ x ∈ c, x.bd64) (h1 : I64 tn) (h2 : I64 td) (w : World) (hI : SlR w.heap.size w (.slice A c.length cap) c) (hbad : (valC c && amtB tn td) = false) :
    Calls Tryz.prog 21 #[.slice A c.length cap, .agg #[.int .i64 tn, .int .i64 td]] w fun e w' => e = .returned (.tuple #[.slice none 0 0, .int .i64 2]) ∧ Below w.heap.size w w' := by
  have HV : Hid (∀ W : World, Below w.heap.size w W → _) := fun W hb => valid_c A cap c hlen hbd W ((hI.below hb (Nat.le_refl _)).more hb.size)
  have HT : Hid (∀ W : World, _) := fun W => amount_any tn td W h1.1 h1.2 h2.1 h2.2
  clear hI hbd
  generalize valC c = vc at hbad HV
  generalize amtB tn td = va at hbad HT
  have hB0 := (Below.refl w.heap.size w).alloc (Nat.le_refl _) (.cells #[.int .i64 tn, .int .i64 td] 25)
  cases vc
  · go_enter Tryz.func21, Tryz.ntmps21
    go_wp2_with fail
    refine (HV.out _ hB0).mono ?_; rintro e w1 ⟨rfl, hb1⟩
    go_wp2
    go_ret2
    exact ⟨rfl, hB0.trans (hb1.mono hB0.size)⟩
  · obtain rfl : va = false := by simpa using hbad
    go_enter Tryz.func21, Tryz.ntmps21
    go_wp2_with fail
    refine (HV.out _ hB0).mono ?_; rintro e w1 ⟨rfl, hb1⟩
    obtain ⟨hc, hf⟩ := bcell hb1
    have hz := hb1.size
    simp only [World.size_alloc] at hc hf hz
    go_wp2_with fail
    refine (HT.out _).mono ?_; rintro e w2 ⟨rfl, hb2⟩
    go_wp2
    go_ret2
    exact ⟨rfl, hB0.trans ((bnext hb1 hb2.b).mono hB0.size)⟩

set_option maxRecDepth 100000 in
set_option maxHeartbeats 4000000 in
theorem shift_ok (c : List Buck) (t : Rat) (hl1 : 1 ≤ c.length) (hl2 : c.length ≤ 32) (ht : Fit t) (ht0 : 0 ≤ t) (w : World) (hI : Sl w.heap.size w (.slice A c.length cap) c) :
    Calls Tryz.prog 21 #[.slice A c.length cap, .agg #[.int .i64 t.num, .int .i64 t.den]] w (ShiftPost c t w) := by
  obtain ⟨i0, hi, hz0, hz1, hz2⟩ := info_parts infoB
  have hB0 := (Below.refl w.heap.size w).alloc (Nat.le_refl _) (.cells #[.int .i64 t.num, .int .i64 t.den] 25)
  have HV := valid_ok hl1 hl2 ((hI.below hB0 (Nat.le_refl _)).more hB0.size)
  have HT : Hid (∀ W : World, _) := fun W => amount_ok ht ht0 W
  have HX : Hid (∀ (x : Buck) (W : World), _) := fun x W => value_r x.hb x.hr ht W
  obtain ⟨A', cap', e, hrow⟩ := hI
  simp only [Value.slice.injEq, true_and] at e
  obtain ⟨rfl, rfl⟩ := e
  obtain ⟨b, off, rfl, hb, hr⟩ := hrow (by intro h; subst h; simp at hl1)
  have Ht0 := Lib.hid ht0
  clear hrow ht ht0
  generalize htn : t.num = tn at HT HX HV hB0
  generalize htd : (t.den : Int) = td at HT HX HV hB0
  clear htn htd
  go_enter Tryz.func21, Tryz.ntmps21
  go_wp2_with fail
  refine HV.mono ?_; rintro e w1 ⟨rfl, hb1⟩
  obtain ⟨hc, hf⟩ := bcell hb1
  have hz := hb1.size
  simp only [World.size_alloc] at hc hf hz
  go_wp2_with fail
  refine (HT.out _).mono ?_; rintro e w2 ⟨rfl, hb2⟩
  replace hb2 := bnext hb1 hb2
  clear hc hf hz hb1
  have bT : BoxN w2 w.heap.size 25 #[.int .i64 tn, .int .i64 td] := (BoxN.new w _ _).below hb2 (by simp)
  have hB2 : Below w.heap.size w w2 := hB0.trans (hb2.mono hB0.size)
  clear hb2 HV HT hB0
  go_wp2_with fail
  go_loopw [6, 21] (fun v i wr => ∃ (k : Nat), k ≤ c.length ∧ i = .int .i64 k ∧ (∀ x ∈ c.take k, okv x t) ∧ Own4 w2.heap.size wr v ((c.take k).map (shiftB t)) ∧ Below w2.heap.size w2 wr)
    (fun _ i _ => c.length - (intOf i).toNat)
  case atStart => exact ⟨0, Nat.zero_le _, rfl, by simp, ⟨World.ownsRow_nil _ _ _ _, by simp⟩, Below.refl _ _⟩
  case round =>
    obtain ⟨k, hk, rfl, hall, hown, hBr⟩ := hrel
    by_cases hlt : k < c.length
    · have hx : c[k]? = some c[k] := List.getElem?_eq_getElem hlt
      obtain ⟨x, hxe⟩ : ∃ x, c[k] = x := ⟨_, rfl⟩
      rw [hxe] at hx
      have hts := take_succ' hx
      have hmem : x ∈ c := List.mem_of_getElem? hx
      obtain ⟨c0, c1, c2, c3⟩ := (hr.below hB2 hb).below hBr (Nat.lt_of_lt_of_le hb hB2.size) k x hx
      have hzw : w.heap.size < w2.heap.size := bT.lt
      have hwz := hBr.size
      have bT1 := bT.below hBr (by omega)
      have t0 : wr.cell? ⟨w.heap.size, 0, none⟩ = some (.int .i64 tn) := bT1.cell 0
      have t1 : wr.cell? ⟨w.heap.size, 1, none⟩ = some (.int .i64 td) := bT1.cell 1
      have kT : w.heap.size < wr.heap.size := by omega
      have HXx := HX.out x
      clear HX hx hxe
      by_cases hok : okv x t
      · have hall2 : Hid (∀ y ∈ c.take (k + 1), okv y t) := by
          intro y hy
          rw [hts, List.mem_append] at hy
          rcases hy with hy | hy
          · exact hall y hy
          · simp at hy; subst hy; exact hok
        rw [valV_ok hok] at HXx
        simp only [ratV] at HXx
        have hsn := cellsOf_snoc ((c.take k).map (shiftB t)) (shiftB t x)
        rw [shift_cells Ht0.out hok] at hsn
        have hmp : Hid ((c.take (k + 1)).map (shiftB t) = (c.take k).map (shiftB t) ++ [shiftB t x]) := by unfold Hid; rw [hts]; simp
        generalize (valQ x t).num = vn at HXx hsn
        generalize ((valQ x t).den : Int) = vd at HXx hsn
        have HXx := Lib.hid HXx
        have hSn := Lib.hid hsn
        have hlen4 : ((c.take k).map (shiftB t)).length = k := by simp; omega
        obtain ⟨ho, hnil⟩ := hown
        rw [hlen4] at ho
        generalize (c.take k).map (shiftB t) = acc at ho hnil hmp hSn hlen4
        have hone : ∀ u ∈ [Value.int .i64 vn, .int .i64 vd, .int .i64 x.r.num, .int .i64 x.r.den], u.oneCell' = true := by
          intro u hu
          simp only [List.mem_cons, List.not_mem_nil, or_false] at hu
          rcases hu with rfl | rfl | rfl | rfl <;> rfl
        have Hlen4 := Lib.hid hlen4
        clear hsn hts hall hnil hlen4
        go_wp2_with fail
        refine (HXx.out _).mono ?_; rintro e w3 ⟨rfl, hb3⟩
        have bX3 := (BoxN.new wr 80 #[.int .i64 x.b.num, .int .i64 x.b.den, .int .i64 x.r.num, .int .i64 x.r.den]).below hb3 (by simp)
        have hB3 := (below_allocs1 hBr hwz hb3)
        have ho3 := (own_below (ho.alloc (.cells #[.int .i64 x.b.num, .int .i64 x.b.den, .int .i64 x.r.num, .int .i64 x.r.den] 80)) hb3).alloc (.cells #[.int .i64 vn, .int .i64 vd] 25)
        have x2 : w3.cell? ⟨wr.heap.size, 2, none⟩ = some (.int .i64 x.r.num) := bX3.cell 2
        have x3 : w3.cell? ⟨wr.heap.size, 3, none⟩ = some (.int .i64 x.r.den) := bX3.cell 3
        have kX := bX3.lt
        clear hb3
        have hB4 := hB3.alloc hB3.size (.cells #[.int .i64 vn, .int .i64 vd] 25)
        have hz4 := hB4.size
        have hNew : ((w3.alloc (.cells #[.int .i64 vn, .int .i64 vd] 25)).alloc (.cells #[.int .i64 vn, .int .i64 vd, .int .i64 x.r.num, .int .i64 x.r.den] 80)).heap[w3.heap.size + 1]? = some (.cells #[.int .i64 vn, .int .i64 vd, .int .i64 x.r.num, .int .i64 x.r.den] 80 (0, 0)) := by simpa using heap_alloc_new (w3.alloc (.cells #[.int .i64 vn, .int .i64 vd] 25)) (.cells #[.int .i64 vn, .int .i64 vd, .int .i64 x.r.num, .int .i64 x.r.den] 80)
        have hNews := Lib.hid (World.news_of_block hNew)
        have hz5 := hB3.size
        clear hNew
        go_wp2_with (at_builtin; refine wpList_append_own _ rfl _ _ 22 rfl w2.heap.size 80 i0 _ 4 32 Tryz.underlying22 hi hz0 hz1 hz2 rfl (by decide) _ _ _ rfl (ho3.alloc _) ⟨w3.heap.size + 1, 0, none⟩ 1 1 [.int .i64 vn, .int .i64 vd, .int .i64 x.r.num, .int .i64 x.r.den] rfl rfl hNews.out hone (by unfold maxLen; omega) (by omega) (by simp; omega) ?_; intro v' w5 hown' hgrow _; obtain ⟨g', cap3, rfl⟩ := ownsRow_succ hown')
        have hB5 : Below w2.heap.size w2 w5 := (hB4.alloc hB4.size _).grown hgrow (by simp; omega) (fun j e => own_block_le ho e)
        clear bX3 ho3 hgrow x2 x3
        go_roundw
        case rel => exact ⟨k + 1, hlt, by go_num, hall2.out, by rw [hmp.out]; exact ⟨by rw [hSn.out, List.length_append, Hlen4.out]; exact hown', by simp⟩, hB5⟩
        case measure => simp [intOf]; omega
      · have hno : Hid (¬ ∀ y ∈ c, okv y t) := fun h => hok (h x hmem)
        rw [valV_no hok] at HXx
        have HXx := Lib.hid HXx
        simp only [ratV] at HXx
        clear hts hall hown
        go_wp2_with fail
        refine (HXx.out _).mono ?_; rintro e w3 ⟨rfl, hb3⟩
        have hB3 := below_allocs1 hBr hwz hb3
        have hB4 := hB2.trans ((hB3.alloc hB3.size (.cells #[.int .i64 0, .int .i64 0] 25)).mono hB2.size)
        clear hb3
        go_wp2
        go_ret2
        exact ⟨fun h => absurd h hno.out, fun _ => rfl, hB4⟩
    · obtain rfl : k = c.length := by omega
      rw [List.take_length] at hall hown
      obtain ⟨A', cap2, rfl⟩ := hown.form
      have hN := normal_any A' cap2 (c.map (shiftB t)) (by simp; omega) wr hown.sl
      simp only [List.length_map] at hN
      have hB5 := hB2.trans (hBr.mono hB2.size)
      have hall := Lib.hid hall
      clear hown
      go_wp2_with fail
      (with_reducible refine hN.mono ?_); rintro e w3 ⟨v, rfl, h1, h2, h3⟩
      have hO : Hid (Own4 wr.heap.size w3 v (normL (c.map (shiftB t)))) := ⟨h1, h2⟩
      clear h1 h2 hN
      go_wp2
      go_ret2
      exact ⟨fun _ => ⟨v, rfl, hO.out.base hB5.size⟩, fun h => absurd hall.out h, hB5.trans (h3.mono hB5.size)⟩
end
end Go.Proofs.YtbncfknjgldcbaaGreat
/- slices.MinFunc at a curve and curve.Rate. -/
namespace Go.Proofs.YtbncfknjgldcbaaGreat
open Go.RowKit Go.Joins Go.Shelf Go.Sort Num

theorem BoxN.set4 {W : World} {B : Nat} {t : TypeId} {x y z u : Value} (x' y' z' u' : Value) (h : BoxN W B t #[x, y, z, u]) :
    BoxN ((((W.setCell ⟨B, 0, none⟩ x').setCell ⟨B, 1, none⟩ y').setCell ⟨B, 2, none⟩ z').setCell ⟨B, 3, none⟩ u') B t #[x', y', z', u'] := (((h.set1 0 x').set1 1 y').set1 2 z').set1 3 u'

/-- The bucket of the smallest rate, the first one of several. -/
def rateStep (m y : Buck) : Buck := if y.r < m.r then y else m
def minB (c : List Buck) : Buck := match c with | [] => default | x :: l => l.foldl rateStep x
theorem minB_snoc (c : List Buck) (x : Buck) (h : c ≠ []) : minB (c ++ [x]) = rateStep (minB c) x := by
  cases c with
  | nil => exact absurd rfl h
  | cons y c => simp [minB, List.foldl_append]
def rateL (c : List Buck) : Rat := (minB c).r

theorem rate1_r (x y : Buck) (w : World) :
    Calls Tryz.prog 55 #[.agg x.cells.toArray, .agg y.cells.toArray] w fun e w' => e = .returned (.int .i64 (cmpQ x.r y.r)) ∧ Below w.heap.size w w' := by
  have C2 : Hid (∀ W : World, _) := fun W => cmp_r x.hr y.hr W
  have hB := ((Below.refl w.heap.size w).alloc (Nat.le_refl _) (.cells #[.int .i64 x.b.num, .int .i64 x.b.den, .int .i64 x.r.num, .int .i64 x.r.den] 80)).alloc (by simp) (.cells #[.int .i64 y.b.num, .int .i64 y.b.den, .int .i64 y.r.num, .int .i64 y.r.den] 80)
  generalize cmpQ x.r y.r = c2 at C2 ⊢
  simp only [Buck.cells]
  go_enter Tryz.func55, Tryz.ntmps55
  go_wp2_with fail
  refine (C2.out _).mono ?_; rintro e w1 ⟨rfl, hb1⟩
  go_wp2
  go_ret
  exact ⟨rfl, hB.trans (hb1.b.mono hB.size)⟩

set_option maxRecDepth 100000 in
set_option maxHeartbeats 4000000 in
theorem minFunc_any (A : Option Addr) (cap : Nat) (c : List Buck) (hl1 : 1 ≤ c.length) (hl2 : c.length ≤ 1048576) (w : World) (hI : Sl w.heap.size w (.slice A c.length cap) c) :
    Calls Tryz.prog 54 #[.slice A c.length cap, .func (.func 55) #[] #[]] w fun e w' => e = .returned (.agg (minB c).cells.toArray) ∧ Below w.heap.size w w' := by
  obtain ⟨A', cap', e, hrow⟩ := hI
  simp only [Value.slice.injEq, true_and] at e
  obtain ⟨rfl, rfl⟩ := e
  obtain ⟨b, off, rfl, hb, hr⟩ := hrow (by intro h; subst h; simp at hl1)
  have HX : Hid (∀ (x y : Buck) (W : World), _) := fun x y W => rate1_r x y W
  obtain ⟨y, hy⟩ : ∃ y, c[0]? = some y := ⟨c[0], List.getElem?_eq_getElem hl1⟩
  have hone : c.take 1 = [y] := by rw [List.take_one, List.head?_eq_getElem?, hy]; rfl
  obtain ⟨y0, y1, y2, y3⟩ := hr 0 y hy
  simp only [Nat.zero_mul, Nat.add_zero] at y0 y1 y2 y3
  have h1' : decide ((c.length : Int) < 1) = false := by simp; omega
  clear hrow hy
  go_enter Tryz.func54, Tryz.ntmps54
  go_wp2_with fail
  have bR := BoxN.new w 80 #[.int .i64 0, .int .i64 0, .int .i64 0, .int .i64 0]
  have hB1 : Below w.heap.size w (w.alloc (.cells #[.int .i64 0, .int .i64 0, .int .i64 0, .int .i64 0] 80)) := (Below.refl _ w).alloc (Nat.le_refl _) _
  have hz1 : (w.alloc (.cells #[.int .i64 0, .int .i64 0, .int .i64 0, .int .i64 0] 80)).heap.size = w.heap.size + 1 := by simp
  have bM := BoxN.new (w.alloc (.cells #[.int .i64 0, .int .i64 0, .int .i64 0, .int .i64 0] 80)) 80 #[.int .i64 y.b.num, .int .i64 y.b.den, .int .i64 y.r.num, .int .i64 y.r.den]
  rw [hz1] at bM
  go_loopw [6] (fun i wr => ∃ k : Nat, 1 ≤ k ∧ k ≤ c.length ∧ i = .int .i64 k ∧ BoxN wr (w.heap.size + 1) 80 (minB (c.take k)).cells.toArray ∧ Below (w.heap.size + 1) (w.alloc (.cells #[.int .i64 0, .int .i64 0, .int .i64 0, .int .i64 0] 80)) wr)
    (fun i _ => c.length - (intOf i).toNat)
  case atStart => exact ⟨1, by omega, hl1, rfl, by rw [hone]; exact bM, (Below.refl _ _).alloc (by simp) _⟩
  case round =>
    obtain ⟨k, hk1, hk, rfl, bW, hBr⟩ := hrel
    by_cases hlt : k < c.length
    · have hx : c[k]? = some c[k] := List.getElem?_eq_getElem hlt
      obtain ⟨x, hxe⟩ : ∃ x, c[k] = x := ⟨_, rfl⟩
      rw [hxe] at hx
      have hts := take_succ' hx
      have hkm : c.take k ≠ [] := by intro h; rw [List.take_eq_nil_iff] at h; rcases h with h | h; omega; subst h; simp at hlt
      have hmin : Hid (minB (c.take (k + 1)) = rateStep (minB (c.take k)) x) := by unfold Hid; rw [hts, minB_snoc _ _ hkm]
      obtain ⟨c0, c1, c2, c3⟩ := (hr.below hB1 hb).below hBr (by omega) k x hx
      generalize minB (c.take k) = m at bW hmin
      have HC := fun W => HX.out x m W
      have hcq := @cmpQ_neg x.r m.r
      obtain ⟨cq, hcqe⟩ : ∃ cq, cmpQ x.r m.r = cq := ⟨_, rfl⟩
      rw [hcqe] at HC hcq
      have HC := Lib.hid HC
      have Hcq : Hid (cq < 0 ↔ x.r < m.r) := hcq
      have hbw : b < wr.heap.size := by have := hBr.size; simp at this; omega
      have bWl := bW.lt
      have p0 := Gr.cell (bW.cell 0) bW.lt
      have p1 := Gr.cell (bW.cell 1) bW.lt
      have p2 := Gr.cell (bW.cell 2) bW.lt
      have p3 := Gr.cell (bW.cell 3) bW.lt
      have q0 := Gr.cell c0 hbw
      have q1 := Gr.cell c1 hbw
      have q2 := Gr.cell c2 hbw
      have q3 := Gr.cell c3 hbw
      simp only [Buck.cells] at HC
      haveI : Nonempty (Wd (Gr wr)) := ⟨⟨wr, Below.refl _ _⟩⟩
      have hk1' := hlt
      clear hts hkm hcq hcqe hx hxe
      go_wp2_with fail
      refine wp_region_cls (Gr wr) (by kernel_rfl) (by kernel_rfl) (Gr.start wr) ?_
      repeat (go_big_quiet_step ((go_at_call 55; exact Calls.cls Gr.close (HC.out _))))
      refine wpQuiet_nil ?_
      intro _ hw'
      obtain ⟨s0, rfl⟩ := hw'
      have hG : Below wr.heap.size wr s0.val := s0.ok
      generalize s0.val = v1 at hG ⊢
      have bW1 := bW.below hG bW.lt
      have hB1' : Below (w.heap.size + 1) (w.alloc (.cells #[.int .i64 0, .int .i64 0, .int .i64 0, .int .i64 0] 80)) v1 := hBr.trans (hG.mono (by omega))
      have e0 : v1.cell? ⟨b, off + k * 4, none⟩ = some (.int .i64 x.b.num) := (hG.cell (p := ⟨b, off + k * 4, none⟩) hbw).trans c0
      have e1 : v1.cell? ⟨b, off + k * 4 + 1, none⟩ = some (.int .i64 x.b.den) := (hG.cell (p := ⟨b, off + k * 4 + 1, none⟩) hbw).trans c1
      have e2 : v1.cell? ⟨b, off + k * 4 + 2, none⟩ = some (.int .i64 x.r.num) := (hG.cell (p := ⟨b, off + k * 4 + 2, none⟩) hbw).trans c2
      have e3 : v1.cell? ⟨b, off + k * 4 + 3, none⟩ = some (.int .i64 x.r.den) := (hG.cell (p := ⟨b, off + k * 4 + 3, none⟩) hbw).trans c3
      have n0 : v1.cell? ⟨w.heap.size + 1, 0, none⟩ = some (.int .i64 m.b.num) := bW1.cell 0
      have n1 : v1.cell? ⟨w.heap.size + 1, 1, none⟩ = some (.int .i64 m.b.den) := bW1.cell 1
      have n2 : v1.cell? ⟨w.heap.size + 1, 2, none⟩ = some (.int .i64 m.r.num) := bW1.cell 2
      have n3 : v1.cell? ⟨w.heap.size + 1, 3, none⟩ = some (.int .i64 m.r.den) := bW1.cell 3
      have f0 := bW1.frozen 0
      have f1 := bW1.frozen 1
      have f2 := bW1.frozen 2
      have f3 := bW1.frozen 3
      have bWl1 := bW1.lt
      clear s0 p0 p1 p2 p3 q0 q1 q2 q3
      by_cases hq : cq < 0
      · have hlq : Hid (x.r < m.r) := Hcq.out.1 hq
        go_wp2
        go_roundw
        case rel => exact ⟨k + 1, by omega, hk1', by go_num, by rw [hmin.out, rateStep, if_pos hlq.out]; exact bW1.set4 _ _ _ _, (((hB1'.setCell (p := ⟨w.heap.size + 1, 0, none⟩) (Nat.le_refl _) _).setCell (p := ⟨w.heap.size + 1, 1, none⟩) (Nat.le_refl _) _).setCell (p := ⟨w.heap.size + 1, 2, none⟩) (Nat.le_refl _) _).setCell (p := ⟨w.heap.size + 1, 3, none⟩) (Nat.le_refl _) _⟩
        case measure => simp [intOf]; omega
      · have hlq : Hid (¬ x.r < m.r) := fun h => hq (Hcq.out.2 h)
        go_wp2
        go_roundw
        case rel => exact ⟨k + 1, by omega, hk1', by go_num, by rw [hmin.out, rateStep, if_neg hlq.out]; exact bW1, hB1'⟩
        case measure => simp [intOf]; omega
    · obtain rfl : k = c.length := by omega
      rw [List.take_length] at bW
      have bR1 := bR.below hBr (by omega)
      have n0 : wr.cell? ⟨w.heap.size + 1, 0, none⟩ = some (.int .i64 (minB c).b.num) := bW.cell 0
      have n1 : wr.cell? ⟨w.heap.size + 1, 1, none⟩ = some (.int .i64 (minB c).b.den) := bW.cell 1
      have n2 : wr.cell? ⟨w.heap.size + 1, 2, none⟩ = some (.int .i64 (minB c).r.num) := bW.cell 2
      have n3 : wr.cell? ⟨w.heap.size + 1, 3, none⟩ = some (.int .i64 (minB c).r.den) := bW.cell 3
      have r0 : wr.cell? ⟨w.heap.size, 0, none⟩ = some (.int .i64 0) := bR1.cell 0
      have r1 : wr.cell? ⟨w.heap.size, 1, none⟩ = some (.int .i64 0) := bR1.cell 1
      have r2 : wr.cell? ⟨w.heap.size, 2, none⟩ = some (.int .i64 0) := bR1.cell 2
      have r3 : wr.cell? ⟨w.heap.size, 3, none⟩ = some (.int .i64 0) := bR1.cell 3
      have f0 := bR1.frozen 0
      have f1 := bR1.frozen 1
      have f2 := bR1.frozen 2
      have f3 := bR1.frozen 3
      have hB := hB1.trans (hBr.mono (by omega))
      go_wp2_with fail
      refine bodyPost_ret (v := .agg #[.int .i64 (minB c).b.num, .int .i64 (minB c).b.den, .int .i64 (minB c).r.num, .int .i64 (minB c).r.den]) (by simp [results, Tryz.results54, go_sem, r0, r1, r2, r3]) rfl ⟨rfl, ?_⟩
      (have hBs := hB.size; (try simp only [World.size_alloc] at hBs); repeat' (first | (with_reducible exact hB) | (with_reducible exact hBs) | (with_reducible refine Below.drew ?_) | (with_reducible refine below_drewN ?_ _) | (with_reducible refine Below.setCell ?_ ?_ _) | (with_reducible refine Below.alloc ?_ ?_ _) | go_size | omega | (simp; omega)))
end Go.Proofs.YtbncfknjgldcbaaGreat
/- slices.Grow and slices.Concat at curves, and curve.Min. -/
namespace Go.Proofs.YtbncfknjgldcbaaGreat
open Go.RowKit Go.Joins Go.Shelf Go.Sort Num

theorem row_cells {W : World} {b off : Nat} {c : List Buck} (h : Row W b off c) : ∀ j u, (cellsOf c)[j]? = some u → W.cell? ((⟨b, off, none⟩ : Addr).add j) = some u := by
  intro j u hu
  have hj : j < c.length * 4 := by
    have := (List.getElem?_eq_some_iff.1 hu).1
    rwa [cellsOf_length] at this
  have hq : j / 4 < c.length := by omega
  obtain ⟨h0, h1, h2, h3⟩ := h (j / 4) c[j / 4] (List.getElem?_eq_getElem hq)
  have hf := flat_cells c (j / 4) (j % 4) c[j / 4] (List.getElem?_eq_getElem hq) (Nat.mod_lt _ (by decide))
  rw [show j / 4 * 4 + j % 4 = j by omega, hu] at hf
  have ha : ((⟨b, off, none⟩ : Addr).add j) = ⟨b, off + j, none⟩ := by unfold Addr.add; split <;> simp_all
  rw [ha, hf]
  have hr : j % 4 < 4 := Nat.mod_lt _ (by decide)
  rcases show j % 4 = 0 ∨ j % 4 = 1 ∨ j % 4 = 2 ∨ j % 4 = 3 by omega with e | e | e | e
  · rw [e, show off + j = off + j / 4 * 4 by omega, h0]; rfl
  · rw [e, show off + j = off + j / 4 * 4 + 1 by omega, h1]; rfl
  · rw [e, show off + j = off + j / 4 * 4 + 2 by omega, h2]; rfl
  · rw [e, show off + j = off + j / 4 * 4 + 3 by omega, h3]; rfl
theorem one_all (c : List Buck) : ∀ u ∈ cellsOf c, u.oneCell' = true := by
  intro u hu
  unfold cellsOf at hu
  obtain ⟨x, -, hx⟩ := List.mem_flatMap.1 hu
  exact one_cells x u hx
theorem cellsOf_append (a b : List Buck) : cellsOf (a ++ b) = cellsOf a ++ cellsOf b := by simp [cellsOf]

theorem grow_own (n : Nat) (h1 : 1 ≤ n) (h2 : n ≤ 1048576) (w : World) :
    Calls Tryz.prog 100 #[.slice none 0 0, .int .i64 n] w fun e w' => ∃ v, e = .returned v ∧ w'.ownsRow w.heap.size 80 4 v 0 [] ∧ Below w.heap.size w w' := by
  obtain ⟨i0, hi, hz0, hz1, hz2⟩ := info_parts infoB
  have hG := Any8.slices_Grow_grow Tryz.growC i0 _ hi hz0 (by omega) none 0 0 n [] w (Nat.le_refl _) (by omega) (by rw [hz2]; omega) (by omega) (by simp) (fun _ => rfl) (fun a h => by cases h)
  change Calls Tryz.prog 100 _ _ _ at hG
  refine hG.mono ?_
  rintro e w' ⟨rfl, rfl⟩
  refine ⟨_, rfl, ⟨rfl, .inr ⟨w.heap.size, _, _, rfl, Nat.le_refl _, heap_alloc_new _ _, Nat.zero_le _, grownCap_le_maxLen _ _ _ _ (by unfold maxLen; omega), ?_, by simp⟩⟩, ((Below.refl _ w).drew).alloc (Nat.le_refl _) _⟩
  have hg := grownCap_ge w (0 + n) 0 (Tryz.growC_ren.t 25)
  generalize grownCap w (0 + n) 0 (Tryz.growC_ren.t 25) = G at *
  rw [Array.size_append, Array.size_append, size_zeroCells, size_zeroCells]
  simp [Value.cells]
  omega

set_option maxRecDepth 100000 in
set_option maxHeartbeats 4000000 in
theorem concat_any (g gc : Nat) (A B : Option Addr) (ca cb : Nat) (a b : List Buck) (ha1 : 1 ≤ a.length) (ha2 : a.length ≤ 262144) (hb1 : 1 ≤ b.length) (hb2 : b.length ≤ 262144) (w : World)
    (h0 : w.cell? ⟨g, 0, none⟩ = some (.slice A a.length ca)) (h1 : w.cell? ⟨g, 1, none⟩ = some (.slice B b.length cb)) (hg : g < w.heap.size)
    (hIa : Sl w.heap.size w (.slice A a.length ca) a) (hIb : Sl w.heap.size w (.slice B b.length cb) b) :
    Calls Tryz.prog 61 #[.slice (some ⟨g, 0, none⟩) 2 gc] w fun e w' => ∃ v, e = .returned v ∧ w'.ownsRow w.heap.size 80 4 v (a ++ b).length (cellsOf (a ++ b)) ∧ Below w.heap.size w w' := by
  obtain ⟨i0, hi, hz0, hz1, hz2⟩ := info_parts infoB
  have HG : Hid (∀ W : World, _) := fun W => grow_own (a.length + b.length) (by omega) (by omega) W
  obtain ⟨A', ca', e, hra⟩ := hIa
  simp only [Value.slice.injEq, true_and] at e
  obtain ⟨rfl, rfl⟩ := e
  obtain ⟨B', cb', e, hrb⟩ := hIb
  simp only [Value.slice.injEq, true_and] at e
  obtain ⟨rfl, rfl⟩ := e
  obtain ⟨ba, oa, rfl, hba, hra⟩ := hra (by intro h; subst h; simp at ha1)
  obtain ⟨bb, ob, rfl, hbb, hrb⟩ := hrb (by intro h; subst h; simp at hb1)
  have hca := Lib.hid (cellsOf_length a)
  have hcb := Lib.hid (cellsOf_length b)
  have hap := Lib.hid (cellsOf_append a b)
  go_enter Tryz.func61, Tryz.ntmps61
  go_wp2_with fail
  refine wp_loop_rounds 3 ?_
  rw [rounds_succ]
  go_wp2_with fail
  rw [rounds_succ]
  go_wp2_with fail
  rw [rounds_succ]
  go_wp2_with fail
  refine (HG.out _).mono ?_; rintro e w1 ⟨v, rfl, hown, hB1⟩
  have h0' := (hB1.cell (p := ⟨g, 0, none⟩) hg).trans h0
  have h1' := (hB1.cell (p := ⟨g, 1, none⟩) hg).trans h1
  have hra1 := hra.below hB1 hba
  go_wp2_with fail
  refine wp_loop_rounds 3 ?_
  rw [rounds_succ]
  go_wp2_with (at_builtin; refine wpList_append_own _ rfl _ _ 23 rfl w.heap.size 80 i0 _ 4 32 Tryz.underlying23 hi hz0 hz1 hz2 rfl (by decide) _ _ _ rfl hown ⟨ba, oa, none⟩ a.length ca (cellsOf a) rfl hca.out (row_cells hra1) (one_all a) (by unfold maxLen; omega) (by omega) hB1.size ?_; intro v2 w2 hown2 hgrow2 _)
  have hB2 : Below w.heap.size w w2 := hB1.grown hgrow2 hB1.size (fun j e => own_block_le hown e)
  have h02 := (hB2.cell (p := ⟨g, 0, none⟩) hg).trans h0
  have h12 := (hB2.cell (p := ⟨g, 1, none⟩) hg).trans h1
  have hrb2 := hrb.below hB2 hbb
  simp only [Nat.zero_add, List.nil_append] at hown2
  rw [rounds_succ]
  go_wp2_with (at_builtin; refine wpList_append_own _ rfl _ _ 23 rfl w.heap.size 80 i0 _ 4 32 Tryz.underlying23 hi hz0 hz1 hz2 rfl (by decide) _ _ _ rfl hown2 ⟨bb, ob, none⟩ b.length cb (cellsOf b) rfl hcb.out (row_cells hrb2) (one_all b) (by unfold maxLen; omega) (by omega) hB2.size ?_; intro v3 w3 hown3 hgrow3 _)
  have hB3 : Below w.heap.size w w3 := hB2.grown hgrow3 hB2.size (fun j e => own_block_le hown2 e)
  rw [rounds_succ]
  go_wp2
  go_ret
  exact ⟨v3, rfl, by rw [hap.out, List.length_append]; exact hown3, hB3⟩

def MinPost (a b : List Buck) (w : World) (e : Ending) (w' : World) : Prop :=
  ((normL (a ++ b)).length ≤ 32 → ∃ v, e = .returned (.tuple #[v, .int .i64 0]) ∧ Own4 w.heap.size w' v (normL (a ++ b))) ∧ (32 < (normL (a ++ b)).length → e = .returned (.tuple #[.slice none 0 0, .int .i64 5])) ∧ Below w.heap.size w w'

set_option maxHeartbeats 1000000 in
theorem min_bad (A B : Option Addr) (ca cb : Nat) (a b : List Bk) (hla : a.length ≤ 1048576) (hba : ∀ x ∈ a, x.bd64) (hlb : b.length ≤ 1048576) (hbb : ∀ x ∈ b, x.bd64) (w : World) (hIa : SlR w.heap.size w (.slice A a.length ca) a) (hIb : SlR w.heap.size w (.slice B b.length cb) b) (hbad : (valC a && valC b) = false) :
    Calls Tryz.prog 19 #[.slice A a.length ca, .slice B b.length cb] w fun e w' => e = .returned (.tuple #[.slice none 0 0, .int .i64 2]) ∧ Below w.heap.size w w' := by
  have HV := valid_c A ca a hla hba w hIa
  have HT : Hid (∀ W : World, Below w.heap.size w W → _) := fun W hb => valid_c B cb b hlb hbb W ((hIb.below hb (Nat.le_refl _)).more hb.size)
  clear hIa hIb hba hbb
  generalize valC a = vc at hbad HV
  generalize valC b = va at hbad HT
  cases vc
  · go_enter Tryz.func19, Tryz.ntmps19
    go_wp2_with fail
    (with_reducible refine HV.mono ?_); rintro e w1 ⟨rfl, hb1⟩
    go_wp2
    go_ret2
    exact ⟨rfl, hb1⟩
  · obtain rfl : va = false := by simpa using hbad
    go_enter Tryz.func19, Tryz.ntmps19
    go_wp2_with fail
    (with_reducible refine HV.mono ?_); rintro e w1 ⟨rfl, hb1⟩
    have HT1 := HT.out _ hb1
    go_wp2_with fail
    (with_reducible refine HT1.mono ?_); rintro e w2 ⟨rfl, hb2⟩
    go_wp2
    go_ret2
    exact ⟨rfl, hb1.trans (hb2.mono hb1.size)⟩

set_option maxHeartbeats 2000000 in
theorem min_ok (A B : Option Addr) (ca cb : Nat) (a b : List Buck) (ha1 : 1 ≤ a.length) (ha2 : a.length ≤ 32) (hb1 : 1 ≤ b.length) (hb2 : b.length ≤ 32) (w : World) (hIa : Sl w.heap.size w (.slice A a.length ca) a) (hIb : Sl w.heap.size w (.slice B b.length cb) b) :
    Calls Tryz.prog 19 #[.slice A a.length ca, .slice B b.length cb] w (MinPost a b w) := by
  have HV := valid_ok ha1 ha2 hIa
  have HT : Hid (∀ W : World, Below w.heap.size w W → _) := fun W hb => valid_ok hb1 hb2 (W := W) ((hIb.below hb (Nat.le_refl _)).more hb.size)
  have HC : Hid (∀ W : World, Below w.heap.size w W → Calls Tryz.prog 61 #[.slice (some ⟨W.heap.size, 0, none⟩) 2 2] (W.alloc (.cells #[.slice A a.length ca, .slice B b.length cb] 23)) fun e w' => ∃ v, e = .returned v ∧ Own4 W.heap.size w' v (a ++ b) ∧ Below W.heap.size W w') := fun W hb => by
    have hbA := hb.alloc hb.size (.cells #[.slice A a.length ca, .slice B b.length cb] 23)
    have bN := BoxN.new W 23 #[.slice A a.length ca, .slice B b.length cb]
    refine (concat_any W.heap.size 2 A B ca cb a b ha1 (by omega) hb1 (by omega) _ (bN.cell 0) (bN.cell 1) bN.lt ((hIa.below hbA (Nat.le_refl _)).more hbA.size) ((hIb.below hbA (Nat.le_refl _)).more hbA.size)).mono ?_
    rintro e w' ⟨v, rfl, h1, h2⟩
    refine ⟨v, rfl, ⟨own_base h1 (by simp), ?_⟩, ((Below.refl _ W).alloc (Nat.le_refl _) _).trans (h2.mono (by simp))⟩
    constructor
    · intro h
      subst h
      have := h1.1
      rcases h1.2 with ⟨_, h⟩ | ⟨g, cap, cur, h, _⟩
      · rw [List.length_append] at h; omega
      · cases h
    · intro h
      rw [List.append_eq_nil_iff] at h
      rw [h.1] at ha1
      simp at ha1
  have HN : Hid (∀ (W : World) (v : Value) (A' : Option Addr) (c' : Nat), v = .slice A' (a ++ b).length c' → Sl W.heap.size W v (a ++ b) → Calls Tryz.prog 57 #[v] W fun e w' => ∃ v, e = .returned v ∧ Own4 W.heap.size w' v (normL (a ++ b)) ∧ Below W.heap.size W w') := fun W v A' c' hv hS => by
    subst hv
    exact (normal_any A' c' (a ++ b) (by rw [List.length_append]; omega) W hS).mono fun e w' ⟨v, h1, h2, h3, h4⟩ => ⟨v, h1, ⟨h2, h3⟩, h4⟩
  unfold MinPost
  generalize a ++ b = ab at HC HN ⊢
  clear hIa hIb
  generalize normL ab = N at HN ⊢
  go_enter Tryz.func19, Tryz.ntmps19
  go_wp2_with fail
  (with_reducible refine HV.mono ?_); rintro e w1 ⟨rfl, hB1⟩
  have HT1 := HT.out _ hB1
  clear HV HT
  go_wp2_with fail
  (with_reducible refine HT1.mono ?_); rintro e w2 ⟨rfl, hB2⟩
  replace hB2 := hB1.trans (hB2.mono hB1.size)
  have HC1 := HC.out _ hB2
  clear HT1 HC hB1
  go_wp2_with fail
  (with_reducible refine HC1.mono ?_); rintro e w3 ⟨v, rfl, ho, hB3⟩
  replace hB3 := hB2.trans (hB3.mono hB2.size)
  obtain ⟨A', c', hv⟩ := ho.form
  have HN1 := HN.out w3 v A' c' hv ho.sl
  clear HC1 HN hv ho hB2
  go_wp2_with fail
  (with_reducible refine HN1.mono ?_); rintro e w4 ⟨v4, rfl, ho, hB4⟩
  replace hB4 := hB3.trans (hB4.mono hB3.size)
  obtain ⟨A4, c4, rfl⟩ := ho.form
  have hO := Lib.hid (ho.base hB3.size)
  clear HN1 ho hB3
  by_cases hn : 32 < N.length
  · go_wp2
    go_ret2
    exact ⟨fun h => absurd h (by omega), fun _ => rfl, hB4⟩
  · have hn' : N.length ≤ 32 := by omega
    go_wp2
    go_ret2
    exact ⟨fun _ => ⟨_, rfl, hO.out⟩, fun h => absurd h hn, hB4⟩

theorem rate_bad (A : Option Addr) (cap : Nat) (c : List Bk) (hlen : c.length ≤ 1048576) (hbd : ∀ x ∈ c, x.bd64) (w : World) (hI : SlR w.heap.size w (.slice A c.length cap) c) (hbad : valC c = false) :
    Calls Tryz.prog 10 #[.slice A c.length cap] w fun e w' => e = .returned (ratV (0, 0, 2)) ∧ Below w.heap.size w w' := by
  have hB0 := (Below.refl w.heap.size w).alloc (Nat.le_refl _) (.cells #[.int .i64 0, .int .i64 0] 25)
  have HV := valid_c A cap c hlen hbd _ ((hI.below hB0 (Nat.le_refl _)).more hB0.size)
  rw [hbad] at HV
  clear hI hbd hbad
  simp only [ratV]
  go_enter Tryz.func10, Tryz.ntmps10
  go_wp2_with fail
  (with_reducible refine HV.mono ?_); rintro e w1 ⟨rfl, hb1⟩
  obtain ⟨hc, hf⟩ := bcell hb1
  have hz := hb1.size
  simp only [World.size_alloc] at hc hf hz
  have hB := hB0.trans (hb1.mono hB0.size)
  go_wp2
  refine bodyPost_ret (v := ratV (0, 0, 2)) (by simp [results, Tryz.results10, go_sem, ratV, hc]) rfl ⟨rfl, ?_⟩
  (have hBs := hB.size; (try simp only [World.size_alloc] at hBs); repeat' (first | (with_reducible exact hB) | (with_reducible exact hBs) | (with_reducible refine Below.drew ?_) | (with_reducible refine below_drewN ?_ _) | (with_reducible refine Below.setCell ?_ ?_ _) | (with_reducible refine Below.alloc ?_ ?_ _) | go_size | omega | (simp; omega)))

theorem rate_ok (A : Option Addr) (cap : Nat) (c : List Buck) (hl1 : 1 ≤ c.length) (hl2 : c.length ≤ 32) (w : World) (hI : Sl w.heap.size w (.slice A c.length cap) c) :
    Calls Tryz.prog 10 #[.slice A c.length cap] w fun e w' => e = .returned (ratV ((rateL c).num, ((rateL c).den : Int), 0)) ∧ Below w.heap.size w w' := by
  have hB0 := (Below.refl w.heap.size w).alloc (Nat.le_refl _) (.cells #[.int .i64 0, .int .i64 0] 25)
  have HV := valid_ok hl1 hl2 ((hI.below hB0 (Nat.le_refl _)).more hB0.size)
  have HM : Hid (∀ W : World, Below w.heap.size w W → _) := fun W hb => minFunc_any A cap c hl1 (by omega) W ((hI.below hb (Nat.le_refl _)).more hb.size)
  clear hI
  unfold rateL
  generalize minB c = m at HM ⊢
  simp only [ratV, Buck.cells] at HM ⊢
  go_enter Tryz.func10, Tryz.ntmps10
  go_wp2_with fail
  (with_reducible refine HV.mono ?_); rintro e w1 ⟨rfl, hb1⟩
  have hB1 := hB0.trans (hb1.mono hB0.size)
  have HM1 := HM.out _ hB1
  clear HV HM
  go_wp2_with fail
  (with_reducible refine HM1.mono ?_); rintro e w2 ⟨rfl, hb2⟩
  replace hb2 := bnext hb1 hb2
  clear hb1 HM1
  obtain ⟨hc, hf⟩ := bcell hb2
  have hz := hb2.size
  simp only [World.size_alloc] at hc hf hz
  have k2 : w.heap.size < w2.heap.size := by omega
  have hB := hB0.trans (hb2.mono hB0.size)
  go_wp2
  refine bodyPost_ret (v := ratV (m.r.num, m.r.den, 0)) (by simp [results, Tryz.results10, go_sem, ratV, hc, k2]) rfl ⟨rfl, ?_⟩
  (have hBs := hB.size; (try simp only [World.size_alloc] at hBs); repeat' (first | (with_reducible exact hB) | (with_reducible exact hBs) | (with_reducible refine Below.drew ?_) | (with_reducible refine below_drewN ?_ _) | (with_reducible refine Below.setCell ?_ ?_ _) | (with_reducible refine Below.alloc ?_ ?_ _) | go_size | omega | (simp; omega)))
end Go.Proofs.YtbncfknjgldcbaaGreat
