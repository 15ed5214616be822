/- Breakpoints: positive, increasing; between two of them the curve is linear. -/
import Derived.Test.YthkgmgochgjpoaaSg
namespace Go.Proofs.Ythkgmgochgjpoaa.BrkLaw
open Go.RowKit Go.Shelf Go.Sort Num

theorem sub_pos' {a b : Rat} (h : a < b) : 0 < b - a := by grind
theorem meet_mul {u v : Buck} (h : u.bef v) : meetQ (u, v) * (u.r - v.r) = v.b - u.b := by
  have h0 : u.r - v.r ≠ 0 := meet_ne (p := (u, v)) h
  unfold meetQ
  exact Rat.div_mul_cancel h0
/-- Up to the point of meeting the earlier one is below. -/
theorem meet_le {u v : Buck} (h : u.bef v) {t : Rat} (ht : t ≤ meetQ (u, v)) : valQ u t ≤ valQ v t := by
  have h1 := meet_mul h
  have h2 := Rat.mul_le_mul_of_nonneg_right ht (Rat.le_of_lt (sub_pos' h.2))
  unfold valQ
  grind
theorem meet_ge {u v : Buck} (h : u.bef v) {t : Rat} (ht : meetQ (u, v) ≤ t) : valQ v t ≤ valQ u t := by
  have h1 := meet_mul h
  have h2 := Rat.mul_le_mul_of_nonneg_right ht (Rat.le_of_lt (sub_pos' h.2))
  unfold valQ
  grind
theorem meet_lt {u v : Buck} (h : u.bef v) {t : Rat} (ht : valQ v t < valQ u t) : meetQ (u, v) < t := Rat.not_le.1 fun k => Rat.not_le.2 ht (meet_le h k)
theorem meet_gt {u v : Buck} (h : u.bef v) {t : Rat} (ht : valQ u t < valQ v t) : t < meetQ (u, v) := Rat.not_le.1 fun k => Rat.not_le.2 ht (meet_ge h k)
theorem meet_pos {u v : Buck} (h : u.bef v) : 0 < meetQ (u, v) := by
  have h1 : valQ u 0 < valQ v 0 := by unfold valQ; have := h.1; grind
  exact meet_gt h h1
theorem mul_lt {a b c : Rat} (h : a < b) (hc : 0 < c) : a * c < b * c := Rat.mul_lt_mul_of_pos_right h hc
/-- Strictly behind the point the later one is strictly below. -/
theorem meet_slt {u v : Buck} (h : u.bef v) {t : Rat} (ht : meetQ (u, v) < t) : valQ v t < valQ u t := by
  have h1 := meet_mul h
  have h2 := mul_lt ht (sub_pos' h.2)
  unfold valQ
  grind
theorem meet_sgt {u v : Buck} (h : u.bef v) {t : Rat} (ht : t < meetQ (u, v)) : valQ u t < valQ v t := by
  have h1 := meet_mul h
  have h2 := mul_lt ht (sub_pos' h.2)
  unfold valQ
  grind
theorem twos_of {N : List Buck} (hp : N.Pairwise Buck.bef) {p q : Buck} (h1 : p ∈ N) (h2 : q ∈ N) (hne : p ≠ q) : (p, q) ∈ twosL N ∨ (q, p) ∈ twosL N := by
  induction N with
  | nil => cases h1
  | cons x l ih =>
    rw [List.pairwise_cons] at hp
    simp only [twosL, List.mem_append, List.mem_map]
    rcases List.mem_cons.1 h1 with e1 | e1 <;> rcases List.mem_cons.1 h2 with e2 | e2
    · exact absurd (e1.trans e2.symm) hne
    · exact .inl (.inl ⟨q, e2, by rw [e1]⟩)
    · exact .inr (.inl ⟨p, e1, by rw [e2]⟩)
    · rcases ih hp.2 e1 e2 with h | h
      · exact .inl (.inr h)
      · exact .inr (.inr h)
/-- Where no point of meeting lies strictly between, the curve is linear. -/
theorem linear {N : List Buck} (hN : N ≠ []) (hp : N.Pairwise Buck.bef) {x y m : Rat} (hxy : x ≤ y) (hm : m + m = x + y) (hno : ∀ p ∈ twosL N, ¬ (x < meetQ p ∧ meetQ p < y)) :
    minV N m + minV N m = minV N x + minV N y := by
  have hxm : x ≤ m := by grind
  have hmy : m ≤ y := by grind
  obtain ⟨p, hpm, hpe⟩ := minV_at hN m
  have atx : minV N x = valQ p x := by
    refine minV_eq (fun q hq => ?_) ⟨p, hpm, rfl⟩
    refine Rat.not_lt.1 fun hlt => ?_
    have hle : valQ p m ≤ valQ q m := hpe ▸ minV_le hq
    have hne : p ≠ q := by rintro rfl; exact Rat.lt_irrefl hlt
    rcases twos_of hp hpm hq hne with h | h
    · have hb := twosL_mem hp _ h
      have k1 := meet_lt hb hlt
      exact Rat.not_lt.2 hle (meet_slt hb (by grind))
    · have hb := twosL_mem hp _ h
      have k1 := meet_gt hb hlt
      have k2 : meetQ (q, p) ≤ m := Rat.not_lt.1 fun k => Rat.not_lt.2 hle (meet_sgt hb k)
      exact hno _ h ⟨k1, by grind⟩
  have aty : minV N y = valQ p y := by
    refine minV_eq (fun q hq => ?_) ⟨p, hpm, rfl⟩
    refine Rat.not_lt.1 fun hlt => ?_
    have hle : valQ p m ≤ valQ q m := hpe ▸ minV_le hq
    have hne : p ≠ q := by rintro rfl; exact Rat.lt_irrefl hlt
    rcases twos_of hp hpm hq hne with h | h
    · have hb := twosL_mem hp _ h
      have k1 := meet_lt hb hlt
      have k2 : m ≤ meetQ (p, q) := Rat.not_lt.1 fun k => Rat.not_lt.2 hle (meet_slt hb k)
      exact hno _ h ⟨by grind, k1⟩
    · have hb := twosL_mem hp _ h
      have k1 := meet_gt hb hlt
      exact Rat.not_lt.2 hle (meet_sgt hb (by grind))
  rw [atx, aty, hpe]
  unfold valQ
  have : p.r * m + p.r * m = p.r * x + p.r * y := by rw [← Rat.mul_add, hm, Rat.mul_add]
  grind

/-- Points in their order, each once. -/
theorem comp_fold : ∀ (l acc : List Pt), acc.Pairwise (fun a b => a.q < b.q) → (∀ a ∈ acc, ∀ b ∈ l, a.q ≤ b.q) → l.Pairwise (fun a b => a.q ≤ b.q) →
    (l.foldl stepP acc).Pairwise (fun a b => a.q < b.q) ∧ ∀ z, z ∈ l.foldl stepP acc ↔ z ∈ acc ∨ z ∈ l
  | [], acc, h, _, _ => ⟨h, fun z => by simp⟩
  | x :: l, acc, h1, h2, h3 => by
    rw [List.foldl_cons]
    rw [List.pairwise_cons] at h3
    by_cases hl : acc.getLast? = some x
    · have e : stepP acc x = acc := if_pos hl
      rw [e]
      obtain ⟨a, b⟩ := comp_fold l acc h1 (fun a ha b hb => h2 a ha b (List.mem_cons_of_mem _ hb)) h3.2
      refine ⟨a, fun z => ?_⟩
      rw [b, List.mem_cons]
      constructor
      · rintro (h | h)
        · exact .inl h
        · exact .inr (.inr h)
      · rintro (h | h | h)
        · exact .inl h
        · subst h; exact .inl (List.mem_of_getLast? hl)
        · exact .inr h
    · have e : stepP acc x = acc ++ [x] := if_neg hl
      rw [e]
      have hlt : ∀ a ∈ acc, a.q < x.q := fun a ha => by
        have hle := h2 a ha x (by simp)
        rcases Rat.le_iff_lt_or_eq.1 hle with h | h
        · exact h
        · exfalso
          rcases List.eq_nil_or_concat acc with rfl | ⟨init, z, rfl⟩
          · cases ha
          · rw [List.concat_eq_append] at *
            have hzx := h2 z (by simp) x (by simp)
            have hz : z ≠ x := fun e => hl (by rw [List.getLast?_concat, e])
            rcases List.mem_append.1 ha with ha | ha
            · have := (List.pairwise_append.1 h1).2.2 a ha z (by simp)
              grind
            · simp only [List.mem_singleton] at ha
              subst ha
              exact hz (Pt.ext' h)
      obtain ⟨a, b⟩ := comp_fold l (acc ++ [x]) (by
        rw [List.pairwise_append]
        exact ⟨h1, List.pairwise_singleton _ _, fun a ha b hb => by simp only [List.mem_singleton] at hb; subst hb; exact hlt a ha⟩)
        (fun a ha b hb => by
          rcases List.mem_append.1 ha with ha | ha
          · exact h2 a ha b (List.mem_cons_of_mem _ hb)
          · simp only [List.mem_singleton] at ha; subst ha; exact h3.1 b hb) h3.2
      refine ⟨a, fun z => ?_⟩
      rw [b]
      simp [or_assoc]
theorem sortP_pw (c : List Pt) : (sortP c).Pairwise (fun a b => a.q ≤ b.q) := by
  have h := List.pairwise_mergeSort (le := fun x y => !(ltOf Pt.ord) y x) (fun x y z h1 h2 => by
    simp only [Bool.not_eq_true', ptlt_not] at h1 h2 ⊢
    grind) (fun x y => by
    simp only [Bool.or_eq_true, Bool.not_eq_true', ptlt_not]
    grind) c
  exact h.imp fun {x y} k => by simp only [Bool.not_eq_true', ptlt_not] at k; exact Rat.not_lt.1 k
theorem brk_spec (N : List Buck) : (brkL N).Pairwise (fun a b => a.q < b.q) ∧ ∀ z, z ∈ brkL N ↔ z ∈ (twosL N).map meetP := by
  obtain ⟨h1, h2⟩ := comp_fold (sortP ((twosL N).map meetP)) [] .nil (fun _ h => by cases h) (sortP_pw _)
  refine ⟨h1, fun z => ?_⟩
  show z ∈ (sortP ((twosL N).map meetP)).foldl stepP [] ↔ _
  rw [h2]
  simp [sortP, List.mem_mergeSort]
theorem bd_quot {r s : Rat} {A B C D : Nat} (hr : Bd r A B) (hs : Bd s C D) (h0 : 0 < s) : Bd (r / s) (A * D) (B * C) := by
  rw [div_divInt]
  have hn : 0 < s.num := by
    have h1 : 0 ≤ s.num := Rat.num_nonneg.2 (Rat.le_of_lt h0)
    have h2 : s.num ≠ 0 := fun e => by rw [Rat.num_eq_zero.1 e] at h0; exact Rat.lt_irrefl h0
    omega
  have hd := r.den_pos
  refine bd_divInt (Int.mul_pos (by omega) hn) ?_ ?_
  · rw [Int.natAbs_mul]; exact Nat.mul_le_mul hr.1 (by simpa using hs.2)
  · rw [Int.natAbs_mul]; exact Nat.mul_le_mul (by simpa using hr.2) hs.1
theorem sm_okm {N : List Buck} (hp : N.Pairwise Buck.bef) (hs : ∀ x ∈ N, Sm x) : ∀ p ∈ twosL N, okm p := fun p h => by
  have hb := twosL_mem hp p h
  obtain ⟨h1, h2⟩ := twosL_sub p h
  have g1 := gd_sub (hs _ h2).b (hs _ h1).b
  have g2 := gd_sub (hs _ h1).r (hs _ h2).r
  refine ⟨⟨gd_fit g1 (by decide) (by decide) (by decide), gd_fit g2 (by decide) (by decide) (by decide)⟩, meet_ne hb, ?_⟩
  exact bd_le (bd_quot (gd_bd (by decide) g1) (gd_bd (by decide) g2) (sub_pos' hb.2)) (by decide) (by decide)
end Go.Proofs.Ythkgmgochgjpoaa.BrkLaw
