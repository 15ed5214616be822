/- Arrays by value: a row of n values, the first k of which are set. -/
import Derived.Test.YtaoipbndmfjmhaaBytes
namespace Go.Proofs.Ytaoipbndmfjmhaa
open Go.RowKit Go.Joins

def parV (n : Nat) (f : Nat → Value) (z : Value) (k : Nat) : Array Value := ((List.range n).map fun i => if i < k then f i else z).toArray
section
variable (n : Nat) (f : Nat → Value) (z : Value)
theorem parV_size (k : Nat) : (parV n f z k).size = n := by simp [parV]
theorem parV_get (k i : Nat) (h : i < n) : (parV n f z k)[i]? = some (if i < k then f i else z) := by
  simp [parV, h]
theorem parV_set (k : Nat) (h : k < n) : (parV n f z k).setIfInBounds k (f k) = parV n f z (k + 1) := by
  apply Array.ext_getElem?
  intro i
  rw [Array.getElem?_setIfInBounds]
  by_cases hi : i < n
  · rw [parV_get n f z k i hi, parV_get n f z (k + 1) i hi, parV_size]
    by_cases e : k = i
    · subst e; simp [h]
    · rw [if_neg e]
      by_cases h1 : i < k
      · rw [if_pos h1, if_pos (by omega)]
      · rw [if_neg h1, if_neg (by omega)]
  · rw [if_neg (by omega), Array.getElem?_eq_none (by rw [parV_size]; omega), Array.getElem?_eq_none (by rw [parV_size]; omega)]
theorem parV_zero : parV n f z 0 = (List.replicate n z).toArray := by
  unfold parV
  congr 1
  apply List.ext_getElem?
  intro i
  by_cases hi : i < n
  · simp [hi]
  · simp [hi]
theorem parV_full : parV n f z n = ((List.range n).map f).toArray := by
  unfold parV
  congr 1
  apply List.map_congr_left
  intro i hi
  rw [if_pos (List.mem_range.1 hi)]
theorem parV_one (k : Nat) (hf : ∀ i, (f i).oneCell' = true) (hz : z.oneCell' = true) : (parV n f z k).all (·.oneCell') = true := by
  simp only [parV, List.all_toArray, List.all_eq_true, List.mem_map]
  rintro v ⟨i, _, rfl⟩
  split
  · exact hf i
  · exact hz
end
/-- An array of whole numbers, and one of words. -/
def rowI (f : Nat → Nat) (n : Nat) : Array Value := ((List.range n).map fun i => Value.int .i64 (f i : Int)).toArray
def rowW (f : Nat → BitVec 64) (n : Nat) : Array Value := ((List.range n).map fun i => U64 (f i)).toArray
theorem rowI_size (f : Nat → Nat) (n : Nat) : (rowI f n).size = n := by simp [rowI]
theorem rowW_size (f : Nat → BitVec 64) (n : Nat) : (rowW f n).size = n := by simp [rowW]
theorem rowI_get (f : Nat → Nat) (n i : Nat) (h : i < n) : (rowI f n)[i]? = some (.int .i64 (f i : Int)) := by simp [rowI, h]
theorem rowW_get (f : Nat → BitVec 64) (n i : Nat) (h : i < n) : (rowW f n)[i]? = some (U64 (f i)) := by simp [rowW, h]
theorem rowI_one (f : Nat → Nat) (n : Nat) : (rowI f n).all (·.oneCell') = true := by
  simp only [rowI, List.all_toArray, List.all_eq_true, List.mem_map]
  rintro v ⟨i, _, rfl⟩; rfl
theorem rowW_one (f : Nat → BitVec 64) (n : Nat) : (rowW f n).all (·.oneCell') = true := by
  simp only [rowW, List.all_toArray, List.all_eq_true, List.mem_map]
  rintro v ⟨i, _, rfl⟩; rfl
theorem rowI_congr {f g : Nat → Nat} {n : Nat} (h : ∀ i, i < n → f i = g i) : rowI f n = rowI g n := by
  unfold rowI; congr 1; exact List.map_congr_left fun i hi => by rw [h i (List.mem_range.1 hi)]
theorem rowW_congr {f g : Nat → BitVec 64} {n : Nat} (h : ∀ i, i < n → f i = g i) : rowW f n = rowW g n := by
  unfold rowW; congr 1; exact List.map_congr_left fun i hi => by rw [h i (List.mem_range.1 hi)]

abbrev tI := 24
abbrev tW := 31
theorem info_tI : (Try.prog.info? 24).map (·.size) = some 18 := by kernel_rfl
theorem info_tW : (Try.prog.info? 31).map (·.size) = some 18 := by kernel_rfl
theorem zero_tI (f : Nat → Value) : ∀ w : World, (zeroValue 24).run Try.prog w = .ok (.agg (parV 18 f (.int .i64 0) 0)) w := fun w => by
  rw [parV_zero]
  exact (show ∀ w : World, (zeroValue 24).run Try.prog w = .ok (.agg (List.replicate 18 (Value.int .i64 0)).toArray) w from fun _ => by kernel_rfl) w
theorem zero_tW (f : Nat → Value) : ∀ w : World, (zeroValue 31).run Try.prog w = .ok (.agg (parV 18 f (.int .u64 0) 0)) w := fun w => by
  rw [parV_zero]
  exact (show ∀ w : World, (zeroValue 31).run Try.prog w = .ok (.agg (List.replicate 18 (Value.int .u64 0)).toArray) w from fun _ => by kernel_rfl) w
/-- An element of an array by value. -/
theorem run_index_I {R : Array Value} {k : Nat} {z : Value} (hk : k < 18) (h : R[k]? = some z) (w : World) :
    (Instr.index 24 (.agg R) (.int .i64 k)).run Try.prog w = .ok z w := by
  simp [Instr.index, run_underlying Try.underlying24, asIntOf, go_sem, part]
  rw [if_pos hk, h]; rfl
theorem run_index_W {R : Array Value} {k : Nat} {z : Value} (hk : k < 18) (h : R[k]? = some z) (w : World) :
    (Instr.index 31 (.agg R) (.int .i64 k)).run Try.prog w = .ok z w := by
  simp [Instr.index, run_underlying Try.underlying31, asIntOf, go_sem, part]
  rw [if_pos hk, h]; rfl

/-- Digit i of a number, and of its checksum. -/
def hexN (d : BitVec 64) (i : Nat) : Nat := d.toNat / 16 ^ i % 16
def chkTo (d : BitVec 64) : Nat → Nat
  | 0 => 0
  | k + 1 => chkTo d k + (15 - hexN d k)
def digN (d : BitVec 64) (i : Nat) : Nat := if i < 16 then hexN d i else if i = 16 then chkTo d 16 % 16 else chkTo d 16 / 16
theorem hexN_lt (d : BitVec 64) (i : Nat) : hexN d i < 16 := Nat.mod_lt _ (by decide)
theorem chkTo_le (d : BitVec 64) : ∀ k, chkTo d k ≤ 15 * k
  | 0 => Nat.le_refl _
  | k + 1 => by have := chkTo_le d k; unfold chkTo; omega
theorem digN_lt (d : BitVec 64) (i : Nat) : digN d i < 16 := by
  unfold digN
  split
  · exact hexN_lt d i
  · split
    · exact Nat.mod_lt _ (by decide)
    · have := chkTo_le d 16; omega
end Go.Proofs.Ytaoipbndmfjmhaa
