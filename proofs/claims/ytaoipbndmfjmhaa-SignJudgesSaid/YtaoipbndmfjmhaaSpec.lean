/- Signatures as plain mathematics. -/
import Derived.Test.YtaoipbndmfjmhaaArr
namespace Go.Proofs.Ytaoipbndmfjmhaa
open Go.RowKit Go.Joins

abbrev lo8 (i : Int) : BitVec 8 := BitVec.ofInt 8 i
/-- A step of a chain. -/
def stp (i k : Int) (x : BitVec 64) : BitVec 64 := dg (lo8 i :: lo8 k :: bytes8 x)
/-- The value after n steps from a position. -/
def advs (i : Int) (a : Nat) (x : BitVec 64) : Nat → BitVec 64
  | 0 => x
  | n + 1 => stp i ((a + n : Nat) : Int) (advs i a x n)
def advTo (i a b : Nat) (x : BitVec 64) : BitVec 64 := advs (i : Int) a x (b - a)
theorem advs_add (i : Int) (a : Nat) (x : BitVec 64) (n : Nat) : ∀ m, advs i a x (n + m) = advs i (a + n) (advs i a x n) m
  | 0 => rfl
  | m + 1 => by
    rw [← Nat.add_assoc, advs, advs_add i a x n m, advs, Nat.add_assoc]
theorem advTo_trans {i a b c : Nat} (h1 : a ≤ b) (h2 : b ≤ c) (x : BitVec 64) : advTo i b c (advTo i a b x) = advTo i a c x := by
  unfold advTo
  rw [show c - a = (b - a) + (c - b) by omega, advs_add, show a + (b - a) = b by omega]
theorem advTo_self (i a : Nat) (x : BitVec 64) : advTo i a a x = x := by unfold advTo; rw [Nat.sub_self]; rfl
theorem advTo_succ {i a b : Nat} (h : a ≤ b) (x : BitVec 64) : advTo i a (b + 1) x = stp i b (advTo i a b x) := by
  unfold advTo
  rw [show b + 1 - a = (b - a) + 1 by omega, advs, show a + (b - a) = b by omega]
/-- The secret of key q in chain i, and its value at a position. -/
def secr (seed : BitVec 64) (q : Int) (i : Nat) : BitVec 64 := dg (bytes8 seed ++ [lo8 q, lo8 (q / 256), lo8 i])
def val (seed : BitVec 64) (q : Int) (i n : Nat) : BitVec 64 := advTo i 0 n (secr seed q i)
/-- The bytes of a list of words. -/
def bytesL (l : List (BitVec 64)) : List (BitVec 8) := l.flatMap bytes8
theorem bytesL_len (l : List (BitVec 64)) : (bytesL l).length = 8 * l.length := by
  induction l with
  | nil => rfl
  | cons x l ih => unfold bytesL at ih ⊢; rw [List.flatMap_cons, List.length_append, ih, bytes8_len, List.length_cons]; omega
theorem bytesL_snoc (l : List (BitVec 64)) (x : BitVec 64) : bytesL (l ++ [x]) = bytesL l ++ bytes8 x := by simp [bytesL]
theorem bytesL_append (l m : List (BitVec 64)) : bytesL (l ++ m) = bytesL l ++ bytesL m := by simp [bytesL]
/-- Words 0 to n - 1. -/
def wds (n : Nat) (f : Nat → BitVec 64) : List (BitVec 64) := (List.range n).map f
theorem wds_len (n : Nat) (f : Nat → BitVec 64) : (wds n f).length = n := by simp [wds]
theorem wds_get (n : Nat) (f : Nat → BitVec 64) (k : Nat) (h : k < n) : (wds n f)[k]? = some (f k) := by simp [wds, h]
theorem wds_congr {n : Nat} {f g : Nat → BitVec 64} (h : ∀ i, i < n → f i = g i) : wds n f = wds n g :=
  List.map_congr_left fun i hi => h i (List.mem_range.1 hi)
/-- The public value of 18 values. -/
def pubV (f : Nat → BitVec 64) : BitVec 64 := dg (bytesL (wds 18 f))
theorem pubV_congr {f g : Nat → BitVec 64} (h : ∀ i, i < 18 → f i = g i) : pubV f = pubV g := by unfold pubV; rw [wds_congr h]
def pubK (seed : BitVec 64) (q : Int) : BitVec 64 := pubV fun i => val seed q i 15
/-- An inner node. -/
def pr (a b : BitVec 64) : BitVec 64 := dg (bytes8 a ++ bytes8 b)
/-- The parents of a level; the levels. -/
def up (l : List (BitVec 64)) : List (BitVec 64) := wds (l.length / 2) fun i => pr (l.getD (2 * i) 0#64) (l.getD (2 * i + 1) 0#64)
theorem up_len (l : List (BitVec 64)) : (up l).length = l.length / 2 := wds_len _ _
def lev (l : List (BitVec 64)) : Nat → List (BitVec 64)
  | 0 => l
  | j + 1 => up (lev l j)
def leaves (seed : BitVec 64) (h : Nat) : List (BitVec 64) := wds (2 ^ h) fun q => pubK seed (q : Int)
theorem lev_len (l : List (BitVec 64)) (h : Nat) (hl : l.length = 2 ^ h) : ∀ j, j ≤ h → (lev l j).length = 2 ^ (h - j)
  | 0, _ => by rw [Nat.sub_zero]; exact hl
  | j + 1, hj => by
    rw [lev, up_len, lev_len l h hl j (by omega), show h - j = (h - (j + 1)) + 1 by omega, Nat.pow_succ]
    omega
theorem leaves_len (seed : BitVec 64) (h : Nat) : (leaves seed h).length = 2 ^ h := wds_len _ _
def node (seed : BitVec 64) (h j i : Nat) : BitVec 64 := (lev (leaves seed h) j).getD i 0#64
def rootV (seed : BitVec 64) (h : Nat) : BitVec 64 := node seed h h 0
/-- The siblings from the leaf of a key to the root. -/
def sib (q j : Nat) : Nat := if q / 2 ^ j % 2 = 0 then q / 2 ^ j + 1 else q / 2 ^ j - 1
def pathV (seed : BitVec 64) (h q : Nat) : List (BitVec 64) := wds h fun j => node seed h j (sib q j)
theorem pathV_len (seed : BitVec 64) (h q : Nat) : (pathV seed h q).length = h := wds_len _ _
/-- What a path leads to. -/
def climb (q : Nat) : Nat → List (BitVec 64) → BitVec 64 → BitVec 64
  | _, [], x => x
  | j, p :: l, x => climb q (j + 1) l (if q / 2 ^ j % 2 = 0 then pr x p else pr p x)
theorem climb_snoc (q : Nat) : ∀ (l : List (BitVec 64)) (j : Nat) (p x : BitVec 64), climb q j (l ++ [p]) x = (if q / 2 ^ (j + l.length) % 2 = 0 then pr (climb q j l x) p else pr p (climb q j l x))
  | [], j, p, x => by simp [climb]
  | y :: l, j, p, x => by
    rw [List.cons_append, climb, climb_snoc q l, climb, List.length_cons, show j + 1 + l.length = j + (l.length + 1) by omega]
theorem node_up (seed : BitVec 64) (h j i : Nat) (hj : j < h) (hi : i < 2 ^ (h - (j + 1))) : node seed h (j + 1) i = pr (node seed h j (2 * i)) (node seed h j (2 * i + 1)) := by
  unfold node
  rw [lev]
  unfold up
  rw [List.getD_eq_getElem?_getD, wds_get _ _ _ (by
    rw [lev_len _ h (leaves_len seed h) j (by omega), show h - j = (h - (j + 1)) + 1 by omega, Nat.pow_succ]; omega)]
  rfl
/-- A path leads from the leaf to the root. -/
theorem climb_path (seed : BitVec 64) (h q : Nat) (hq : q < 2 ^ h) : ∀ j, j ≤ h → climb q 0 ((pathV seed h q).take j) (node seed h 0 q) = node seed h j (q / 2 ^ j)
  | 0, _ => by simp [climb]
  | j + 1, hj => by
    have ih := climb_path seed h q hq j (by omega)
    have hg : (pathV seed h q)[j]? = some (node seed h j (sib q j)) := wds_get _ _ _ (by omega)
    have hlen : ((pathV seed h q).take j).length = j := by rw [List.length_take, pathV_len]; omega
    rw [take_snoc' hg, climb_snoc, hlen, ih, Nat.zero_add, Nat.pow_succ, ← Nat.div_div_eq_div_mul]
    have hlt : q / 2 ^ j < 2 ^ (h - j) := by
      rw [Nat.div_lt_iff_lt_mul (Nat.two_pow_pos j), ← Nat.pow_add, Nat.sub_add_cancel (by omega)]; exact hq
    rw [show h - j = (h - (j + 1)) + 1 by omega, Nat.pow_succ] at hlt
    unfold sib
    generalize q / 2 ^ j = m at hlt ⊢
    rw [node_up seed h j (m / 2) (by omega) (by omega)]
    by_cases he : m % 2 = 0
    · rw [if_pos he, if_pos he, show 2 * (m / 2) = m by omega]
    · rw [if_neg he, if_neg he, show 2 * (m / 2) = m - 1 by omega, show m - 1 + 1 = m by omega]
theorem climb_root (seed : BitVec 64) (h q : Nat) (hq : q < 2 ^ h) : climb q 0 (pathV seed h q) (pubK seed (q : Int)) = rootV seed h := by
  have h1 := climb_path seed h q hq h (Nat.le_refl _)
  rw [List.take_of_length_le (by rw [pathV_len]; omega), Nat.div_eq_of_lt hq] at h1
  have h2 : node seed h 0 q = pubK seed (q : Int) := by
    unfold node
    rw [lev]
    unfold leaves
    rw [List.getD_eq_getElem?_getD, wds_get _ _ _ hq]; rfl
  rw [h2] at h1
  exact h1
end Go.Proofs.Ytaoipbndmfjmhaa
