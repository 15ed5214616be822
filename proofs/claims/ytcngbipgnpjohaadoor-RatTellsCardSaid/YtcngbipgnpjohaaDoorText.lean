/- Contracts of Compare, Cmp, Floor, Ceil and String of rat. -/
import Derived.Test.YtcngbipgnpjohaaDoorOps
import Derived.Test.YtcngbipgnpjohaaDoorShelf
import Derived.Lib.SmallJoins
import Derived.Lib.ItoaLen
namespace Go.Proofs.YtcngbipgnpjohaaDoor
open Go.RowKit Go.Joins

theorem tab_keep {w w' : World} (h : Lib.TabIs Tryd.prog w "internal/strconv.uint64pow10" .u64 Lib.pow10Tab) (hb : Below w.heap.size w w') : Lib.TabIs Tryd.prog w' "internal/strconv.uint64pow10" .u64 Lib.pow10Tab :=
  tab_stays (g := 3) (by kernel_rfl) h hb (Nat.le_refl _)
theorem below_grow (w : World) (k : Nat) (os : Array Obj) : Below w.heap.size w (Sort.grow (w.drewN k) os) :=
  ⟨rfl, rfl, rfl, by simp [Sort.grow, World.drewN], fun i hi => by simp only [Sort.grow, World.drewN]; rw [Array.getElem?_append_left hi]⟩

theorem ret_str {a b : ByteArray} (h : a = b) : Ending.returned (.string a) = .returned (.string b) := by rw [h]
theorem bytes3 (ta tb : List UInt8) : (({ data := ta.toArray } : ByteArray) ++ (({ data := #[47] } : ByteArray) ++ ({ data := tb.toArray } : ByteArray))) = { data := (ta ++ 47 :: tb).toArray } := by
  apply ByteArray.ext; simp [ByteArray.data_append]

def sgnI (a b : Int) : Int := if a < b then -1 else if b < a then 1 else 0

set_option maxHeartbeats 400000 in
theorem compare_any (a b : Int) (w : World) :
    Calls Tryd.prog 34 #[.int .i64 a, .int .i64 b] w fun e w' => e = .returned (.int .i64 (sgnI a b)) ∧ w = w' := by
  rcases Int.lt_trichotomy a b with h | h | h
  · rw [show sgnI a b = -1 by simp [sgnI, h]]
    go_enter Tryd.func34, Tryd.ntmps34
    go_wp2
    go_ret
    exact ⟨rfl, rfl⟩
  · subst h
    rw [show sgnI a a = 0 by simp [sgnI]]
    go_enter Tryd.func34, Tryd.ntmps34
    go_wp2
    go_ret
    exact ⟨rfl, rfl⟩
  · have h' : ¬ a < b := by omega
    rw [show sgnI a b = 1 by simp [sgnI, h, h']]
    go_enter Tryd.func34, Tryd.ntmps34
    go_wp2
    go_ret
    exact ⟨rfl, rfl⟩

/-- What Cmp returns. -/
def cmpN (a b c d : Int) : Int := if vldB a b && vldB c d then sgnI (a * d) (c * b) else 0

set_option maxHeartbeats 1000000 in
theorem cmp_any (a b c d : Int) (w : World) (a0 : -9223372036854775808 ≤ a) (a1 : a ≤ 9223372036854775807) (b0 : -9223372036854775808 ≤ b) (b1 : b ≤ 9223372036854775807) (c0 : -9223372036854775808 ≤ c) (c1 : c ≤ 9223372036854775807) (d0 : -9223372036854775808 ≤ d) (d1 : d ≤ 9223372036854775807) :
    Calls Tryd.prog 13 #[.agg #[.int .i64 a, .int .i64 b], .agg #[.int .i64 c, .int .i64 d]] w fun e w' => e = .returned (.int .i64 (cmpN a b c d)) ∧ Below w.heap.size w w' := by
  unfold cmpN
  have hW0 : ∀ w2 : World, Below ((w.alloc (.cells #[.int .i64 a, .int .i64 b] 23)).alloc (.cells #[.int .i64 c, .int .i64 d] 23)).heap.size ((w.alloc (.cells #[.int .i64 a, .int .i64 b] 23)).alloc (.cells #[.int .i64 c, .int .i64 d] 23)) w2 → Below w.heap.size w w2 := fun w2 h =>
    (((Below.refl _ _).alloc (Nat.le_refl _) _).alloc (by simp) _).trans (h.mono (by simp; omega))
  have HW0 := Lib.hid hW0
  clear hW0
  cases hx : vldB a b
  · have Hx := Lib.hid hx
    clear hx
    simp only [Bool.false_and, Bool.false_eq_true, if_false]
    go_enter Tryd.func13, Tryd.ntmps13
    go_wp2_with fail
    refine (valid_any a b _ a0 a1 b0 b1).mono ?_; rintro e w1 ⟨rfl, hb1⟩; rw [Hx.out]
    go_wp2
    go_ret
    exact ⟨rfl, HW0.out _ hb1⟩
  obtain ⟨b2, b3, a2, a3, -⟩ := vld_bd hx
  have Hx := Lib.hid hx
  clear hx
  cases hy : vldB c d
  · have Hy := Lib.hid hy
    clear hy
    simp only [Bool.and_false, Bool.false_eq_true, if_false]
    go_enter Tryd.func13, Tryd.ntmps13
    go_wp2_with fail
    refine (valid_any a b _ a0 a1 b0 b1).mono ?_; rintro e w1 ⟨rfl, hb1⟩; rw [Hx.out]
    obtain ⟨hc, hf⟩ := bcell hb1
    simp only [World.size_alloc] at hc hf
    go_wp2_with fail
    refine (valid_any c d _ c0 c1 d0 d1).mono ?_; rintro e w2 ⟨rfl, hb2⟩; rw [Hy.out]
    replace hb2 := bnext hb1 hb2
    go_wp2
    go_ret
    exact ⟨rfl, HW0.out _ hb2⟩
  obtain ⟨d2, d3, c2, c3, -⟩ := vld_bd hy
  have Hy := Lib.hid hy
  clear hy
  have h1 := mulb a2 a3 (show -1073741824 ≤ d by omega) d3
  have h2 := mulb c2 c3 (show -1073741824 ≤ b by omega) b3
  simp only [Bool.and_self, if_true]
  obtain ⟨g, Hg⟩ : ∃ g, Hid (g = sgnI (a * d) (c * b)) := ⟨_, rfl⟩
  rw [← Hg.out]
  go_enter Tryd.func13, Tryd.ntmps13
  go_wp2_with fail
  refine (valid_any a b _ a0 a1 b0 b1).mono ?_; rintro e w1 ⟨rfl, hb1⟩; rw [Hx.out]
  obtain ⟨hc, hf⟩ := bcell hb1
  simp only [World.size_alloc] at hc hf
  go_wp2_with fail
  refine (valid_any c d _ c0 c1 d0 d1).mono ?_; rintro e w2 ⟨rfl, hb2⟩; rw [Hy.out]
  replace hb2 := bnext hb1 hb2
  clear hc hf hb1
  obtain ⟨hc, hf⟩ := bcell hb2
  simp only [World.size_alloc] at hc hf
  go_wp2_with fail
  refine (compare_any _ _ _).mono ?_; rintro e w3 ⟨rfl, rfl⟩; rw [← Hg.out]
  go_wp2
  go_ret
  exact ⟨rfl, HW0.out _ hb2⟩

/-- What Floor and Ceil return. -/
def floorN (n d : Int) : Int := if vldB n d then n / d else 0
def ceilN (n d : Int) : Int := if vldB n d then -(-n / d) else 0

theorem tdiv_floor (n d : Int) (hd : 0 < d) : n / d = if n.tmod d < 0 then n.tdiv d - 1 else n.tdiv d := by
  have h := Int.mul_tdiv_add_tmod n d
  have h2 : n.tmod d < d := Int.tmod_lt_of_pos n hd
  have h3 : -d < n.tmod d := by
    exact Int.lt_tmod_of_pos n hd
  split
  · rw [Int.ediv_eq_iff_of_pos hd]
    rw [Int.sub_mul, Int.mul_comm]
    omega
  · rw [Int.ediv_eq_iff_of_pos hd]
    rw [Int.mul_comm]
    omega
theorem tdiv_ceil (n d : Int) (hd : 0 < d) : -(-n / d) = if n.tmod d > 0 then n.tdiv d + 1 else n.tdiv d := by
  rw [tdiv_floor (-n) d hd, Int.neg_tdiv, Int.neg_tmod]
  split <;> split <;> omega

theorem tdiv_bd {a d m : Int} (a0 : -m ≤ a) (a1 : a ≤ m) : -m ≤ a.tdiv d ∧ a.tdiv d ≤ m := by
  have h : (a.tdiv d).natAbs ≤ a.natAbs := by rw [Int.natAbs_tdiv]; exact Nat.div_le_self _ _
  omega

set_option maxHeartbeats 1000000 in
theorem floor_any (a b : Int) (w : World) (a0 : -9223372036854775808 ≤ a) (a1 : a ≤ 9223372036854775807) (b0 : -9223372036854775808 ≤ b) (b1 : b ≤ 9223372036854775807) :
    Calls Tryd.prog 15 #[.agg #[.int .i64 a, .int .i64 b]] w fun e w' => e = .returned (.int .i64 (floorN a b)) ∧ Below w.heap.size w w' := by
  unfold floorN
  cases hx : vldB a b
  · have Hx := Lib.hid hx
    clear hx
    simp only [Bool.false_eq_true, if_false]
    go_enter Tryd.func15, Tryd.ntmps15
    go_wp2_with fail
    refine (valid_any a b _ a0 a1 b0 b1).mono ?_; rintro e w1 ⟨rfl, hb1⟩; rw [Hx.out]
    go_wp2
    go_ret
    exact ⟨rfl, ((Below.refl _ _).alloc (Nat.le_refl _) _).trans (hb1.mono (by simp))⟩
  obtain ⟨b2, b3, a2, a3, -⟩ := vld_bd hx
  have Hx := Lib.hid hx
  clear hx
  simp only [if_true]
  have hbz : (b == 0) = false := by simp; omega
  have q := tdiv_floor a b (by omega)
  obtain ⟨q1, q2⟩ := tdiv_bd (d := b) a2 a3
  by_cases ha : 0 ≤ a
  · rw [Int.tdiv_eq_ediv_of_nonneg ha] at q q1 q2
    rw [Int.tmod_eq_emod_of_nonneg ha] at q
    have Hq := Lib.hid q
    clear q
    have m0 : 0 ≤ a % b := Int.emod_nonneg _ (by omega)
    have q0 : 0 ≤ a / b := Int.ediv_nonneg ha (by omega)
    go_enter Tryd.func15, Tryd.ntmps15
    go_wp2_with fail
    refine (valid_any a b _ a0 a1 b0 b1).mono ?_; rintro e w1 ⟨rfl, hb1⟩; rw [Hx.out]
    obtain ⟨hc, hf⟩ := bcell hb1
    simp only [World.size_alloc] at hc hf
    go_wp2
    all_goals
      go_ret
      exact ⟨ret_int (by rw [Hq.out]; try (split <;> first | rfl | omega)), ((Below.refl _ _).alloc (Nat.le_refl _) _).trans (hb1.mono (by simp))⟩
  · have Hq := Lib.hid q
    clear q
    go_enter Tryd.func15, Tryd.ntmps15
    go_wp2_with fail
    refine (valid_any a b _ a0 a1 b0 b1).mono ?_; rintro e w1 ⟨rfl, hb1⟩; rw [Hx.out]
    obtain ⟨hc, hf⟩ := bcell hb1
    simp only [World.size_alloc] at hc hf
    go_wp2
    all_goals
      go_ret
      exact ⟨ret_int (by rw [Hq.out]; try (split <;> first | rfl | omega)), ((Below.refl _ _).alloc (Nat.le_refl _) _).trans (hb1.mono (by simp))⟩

set_option maxHeartbeats 1000000 in
theorem ceil_any (a b : Int) (w : World) (a0 : -9223372036854775808 ≤ a) (a1 : a ≤ 9223372036854775807) (b0 : -9223372036854775808 ≤ b) (b1 : b ≤ 9223372036854775807) :
    Calls Tryd.prog 17 #[.agg #[.int .i64 a, .int .i64 b]] w fun e w' => e = .returned (.int .i64 (ceilN a b)) ∧ Below w.heap.size w w' := by
  unfold ceilN
  cases hx : vldB a b
  · have Hx := Lib.hid hx
    clear hx
    simp only [Bool.false_eq_true, if_false]
    go_enter Tryd.func17, Tryd.ntmps17
    go_wp2_with fail
    refine (valid_any a b _ a0 a1 b0 b1).mono ?_; rintro e w1 ⟨rfl, hb1⟩; rw [Hx.out]
    go_wp2
    go_ret
    exact ⟨rfl, ((Below.refl _ _).alloc (Nat.le_refl _) _).trans (hb1.mono (by simp))⟩
  obtain ⟨b2, b3, a2, a3, -⟩ := vld_bd hx
  have Hx := Lib.hid hx
  clear hx
  simp only [if_true]
  have hbz : (b == 0) = false := by simp; omega
  have q := tdiv_ceil a b (by omega)
  obtain ⟨q1, q2⟩ := tdiv_bd (d := b) a2 a3
  by_cases ha : 0 ≤ a
  · rw [Int.tdiv_eq_ediv_of_nonneg ha] at q q1 q2
    rw [Int.tmod_eq_emod_of_nonneg ha] at q
    have Hq := Lib.hid q
    clear q
    have m0 : 0 ≤ a % b := Int.emod_nonneg _ (by omega)
    have q0 : 0 ≤ a / b := Int.ediv_nonneg ha (by omega)
    go_enter Tryd.func17, Tryd.ntmps17
    go_wp2_with fail
    refine (valid_any a b _ a0 a1 b0 b1).mono ?_; rintro e w1 ⟨rfl, hb1⟩; rw [Hx.out]
    obtain ⟨hc, hf⟩ := bcell hb1
    simp only [World.size_alloc] at hc hf
    go_wp2
    all_goals
      go_ret
      exact ⟨ret_int (by rw [Hq.out]; try (split <;> first | rfl | omega)), ((Below.refl _ _).alloc (Nat.le_refl _) _).trans (hb1.mono (by simp))⟩
  · have Hq := Lib.hid q
    clear q
    go_enter Tryd.func17, Tryd.ntmps17
    go_wp2_with fail
    refine (valid_any a b _ a0 a1 b0 b1).mono ?_; rintro e w1 ⟨rfl, hb1⟩; rw [Hx.out]
    obtain ⟨hc, hf⟩ := bcell hb1
    simp only [World.size_alloc] at hc hf
    go_wp2
    all_goals
      go_ret
      exact ⟨ret_int (by rw [Hq.out]; try (split <;> first | rfl | omega)), ((Below.refl _ _).alloc (Nat.le_refl _) _).trans (hb1.mono (by simp))⟩

/-- The text of a number, as bytes. -/
def strN (n d : Int) : List UInt8 := if vldB n d then Lib.itoa n ++ (if d = 1 then [] else 47 :: Lib.itoa d) else []

set_option maxHeartbeats 1000000 in
theorem string_any (a b : Int) (w : World) (htab : Lib.TabIs Tryd.prog w "internal/strconv.uint64pow10" .u64 Lib.pow10Tab) (a0 : -9223372036854775808 ≤ a) (a1 : a ≤ 9223372036854775807) (b0 : -9223372036854775808 ≤ b) (b1 : b ≤ 9223372036854775807) :
    Calls Tryd.prog 38 #[.agg #[.int .i64 a, .int .i64 b]] w fun e w' => e = .returned (.string ⟨(strN a b).toArray⟩) ∧ Below w.heap.size w w' := by
  unfold strN
  have Ht := Lib.hid htab
  clear htab
  have hW0 : ∀ w2 : World, Below (w.alloc (.cells #[.int .i64 a, .int .i64 b] 23)).heap.size (w.alloc (.cells #[.int .i64 a, .int .i64 b] 23)) w2 → Below w.heap.size w w2 := fun w2 h =>
    ((Below.refl _ _).alloc (Nat.le_refl _) _).trans (h.mono (by simp))
  have HW0 := Lib.hid hW0
  clear hW0
  cases hx : vldB a b
  · have Hx := Lib.hid hx
    clear hx
    simp only [Bool.false_eq_true, if_false]
    go_enter Tryd.func38, Tryd.ntmps38
    go_wp2_with fail
    refine (valid_any a b _ a0 a1 b0 b1).mono ?_; rintro e w1 ⟨rfl, hb1⟩; rw [Hx.out]
    go_wp2
    go_ret
    exact ⟨rfl, HW0.out _ hb1⟩
  obtain ⟨b2, b3, a2, a3, -⟩ := vld_bd hx
  have Hx := Lib.hid hx
  clear hx
  simp only [if_true]
  obtain ⟨ta, Hta⟩ : ∃ t, Hid (t = Lib.itoa a) := ⟨_, rfl⟩
  obtain ⟨tb, Htb⟩ : ∃ t, Hid (t = Lib.itoa b) := ⟨_, rfl⟩
  have la : ta.length ≤ 21 := by rw [Hta.out]; exact Lib.itoa_length_le a a0 a1
  have lb : tb.length ≤ 21 := by rw [Htb.out]; exact Lib.itoa_length_le b b0 b1
  rw [← Hta.out, ← Htb.out]
  by_cases h1 : b = 1
  · have hb1 : (b != 1) = false := by simp [h1]
    have hb1' : (b == 1) = true := by simp [h1]
    rw [if_pos h1, List.append_nil]
    have H1 := Lib.hid h1
    clear h1
    go_enter Tryd.func38, Tryd.ntmps38
    go_wp2_with fail
    refine (valid_any a b _ a0 a1 b0 b1).mono ?_; rintro e w1 ⟨rfl, hb1⟩; rw [Hx.out]
    obtain ⟨hc, hf⟩ := bcell hb1
    simp only [World.size_alloc] at hc hf
    go_wp2_with fail
    refine (Tryd.strconv_Itoa a a0 a1 _ (tab_keep Ht.out (HW0.out _ hb1))).mono ?_; rintro e w2 ⟨rfl, k, os, rfl⟩; rw [← Hta.out]
    have hb2 := bnext hb1 (below_grow w1 k os)
    generalize Sort.grow (w1.drewN k) os = w2 at hb2 ⊢
    clear hc hf hb1
    obtain ⟨hc, hf⟩ := bcell hb2
    simp only [World.size_alloc] at hc hf
    go_wp2
    go_ret
    exact ⟨rfl, HW0.out _ hb2⟩
  · have hb1 : (b != 1) = true := by simpa using h1
    have hb1' : (b == 1) = false := by simpa using h1
    rw [if_neg h1]
    clear h1
    go_enter Tryd.func38, Tryd.ntmps38
    go_wp2_with fail
    refine (valid_any a b _ a0 a1 b0 b1).mono ?_; rintro e w1 ⟨rfl, hw1⟩; rw [Hx.out]
    obtain ⟨hc, hf⟩ := bcell hw1
    simp only [World.size_alloc] at hc hf
    go_wp2_with fail
    refine (Tryd.strconv_Itoa a a0 a1 _ (tab_keep Ht.out (HW0.out _ hw1))).mono ?_; rintro e w2 ⟨rfl, k, os, rfl⟩; rw [← Hta.out]
    have hw2 := bnext hw1 (below_grow w1 k os)
    generalize Sort.grow (w1.drewN k) os = w2 at hw2 ⊢
    clear hc hf hw1
    obtain ⟨hc, hf⟩ := bcell hw2
    simp only [World.size_alloc] at hc hf
    go_wp2_with fail
    refine (Tryd.strconv_Itoa b b0 b1 _ (tab_keep Ht.out (HW0.out _ hw2))).mono ?_; rintro e w3 ⟨rfl, k, os, rfl⟩; rw [← Htb.out]
    have hw3 := bnext hw2 (below_grow w2 k os)
    generalize Sort.grow (w2.drewN k) os = w3 at hw3 ⊢
    clear hc hf hw2
    go_wp2
    go_ret
    exact ⟨ret_str (bytes3 ta tb), HW0.out _ hw3⟩
end Go.Proofs.YtcngbipgnpjohaaDoor
