/- The value of a curve as the least of its buckets' values; numbers on a grid. -/
import Derived.Test.YthkgmgochgjpoaaKept
namespace Go.Proofs.Ythkgmgochgjpoaa
open Go.RowKit Go.Shelf Go.Sort Num

theorem min_fold (t : Rat) : ∀ (l : List Buck) (m : Rat), (l.foldl (minStep t) m ≤ m ∧ (∀ x ∈ l, l.foldl (minStep t) m ≤ valQ x t)) ∧ (l.foldl (minStep t) m = m ∨ ∃ x ∈ l, l.foldl (minStep t) m = valQ x t)
  | [], m => ⟨⟨Rat.le_refl, fun _ h => by cases h⟩, .inl rfl⟩
  | y :: l, m => by
    obtain ⟨⟨h1, h2⟩, h3⟩ := min_fold t l (minStep t m y)
    rw [List.foldl_cons]
    have hs : minStep t m y ≤ m ∧ minStep t m y ≤ valQ y t ∧ (minStep t m y = m ∨ minStep t m y = valQ y t) := by
      unfold minStep
      by_cases h : valQ y t < m
      · rw [if_pos h]; exact ⟨Rat.le_of_lt h, Rat.le_refl, .inr rfl⟩
      · rw [if_neg h]; exact ⟨Rat.le_refl, Rat.not_lt.1 h, .inl rfl⟩
    refine ⟨⟨Rat.le_trans h1 hs.1, fun x hx => ?_⟩, ?_⟩
    · rcases List.mem_cons.1 hx with rfl | hx
      · exact Rat.le_trans h1 hs.2.1
      · exact h2 x hx
    · rcases h3 with h3 | ⟨x, hx, h3⟩
      · rcases hs.2.2 with h | h
        · exact .inl (h3.trans h)
        · exact .inr ⟨y, by simp, h3.trans h⟩
      · exact .inr ⟨x, List.mem_cons_of_mem _ hx, h3⟩
theorem minV_le {c : List Buck} {t : Rat} {x : Buck} (h : x ∈ c) : minV c t ≤ valQ x t := by
  cases c with
  | nil => cases h
  | cons y l =>
    obtain ⟨⟨h1, h2⟩, _⟩ := min_fold t l (valQ y t)
    rcases List.mem_cons.1 h with rfl | h
    · exact h1
    · exact h2 x h
theorem minV_at {c : List Buck} (h : c ≠ []) (t : Rat) : ∃ x ∈ c, minV c t = valQ x t := by
  cases c with
  | nil => exact absurd rfl h
  | cons y l =>
    rcases (min_fold t l (valQ y t)).2 with h | ⟨x, hx, h⟩
    · exact ⟨y, by simp, h⟩
    · exact ⟨x, List.mem_cons_of_mem _ hx, h⟩
theorem minV_eq {c : List Buck} {t m : Rat} (h1 : ∀ x ∈ c, m ≤ valQ x t) (h2 : ∃ x ∈ c, m = valQ x t) : minV c t = m := by
  obtain ⟨x, hx, h⟩ := h2
  obtain ⟨y, hy, k⟩ := minV_at (List.ne_nil_of_mem hx) t
  exact Rat.le_antisymm (h ▸ minV_le hx) (k ▸ h1 y hy)
theorem le_val {x y : Buck} (h : x.le y) {t : Rat} (ht : 0 ≤ t) : valQ x t ≤ valQ y t := by
  have := Rat.mul_le_mul_of_nonneg_right h.2 ht
  have := h.1
  unfold valQ
  grind
theorem minV_norm {c : List Buck} (hc : c ≠ []) {t : Rat} (ht : 0 ≤ t) : minV (normL c) t = minV c t := by
  have hn := normL_nf c
  refine minV_eq (fun x hx => minV_le (hn.s x hx)) ?_
  obtain ⟨x, hx, h⟩ := minV_at hc t
  obtain ⟨y, hy, hle⟩ := hn.c x hx
  exact ⟨y, hy, Rat.le_antisymm (minV_le (hn.s y hy)) (h ▸ le_val hle ht)⟩
theorem pairsL_mem {a b : List Buck} {p : Buck × Buck} : p ∈ pairsL a b ↔ p.1 ∈ a ∧ p.2 ∈ b := by
  unfold pairsL
  simp only [List.mem_flatMap, List.mem_map]
  constructor
  · rintro ⟨x, hx, y, hy, rfl⟩; exact ⟨hx, hy⟩
  · rintro ⟨h1, h2⟩; exact ⟨p.1, h1, p.2, h2, rfl⟩
theorem addB_val {p : Buck × Buck} (h : oka p) (t : Rat) : valQ (addB p) t = valQ p.1 t + valQ p.2 t := by
  unfold valQ addB
  rw [mk_b (add_h h), mk_r (add_h h)]
  grind
theorem minV_pairs {a b : List Buck} (ha : a ≠ []) (hb : b ≠ []) (hok : ∀ p ∈ pairsL a b, oka p) (t : Rat) : minV ((pairsL a b).map addB) t = minV a t + minV b t := by
  refine minV_eq (fun z hz => ?_) ?_
  · obtain ⟨p, hp, rfl⟩ := List.mem_map.1 hz
    obtain ⟨h1, h2⟩ := pairsL_mem.1 hp
    rw [addB_val (hok p hp)]
    have := minV_le (t := t) h1
    have := minV_le (t := t) h2
    grind
  · obtain ⟨x, hx, h1⟩ := minV_at ha t
    obtain ⟨y, hy, h2⟩ := minV_at hb t
    have hp : (x, y) ∈ pairsL a b := pairsL_mem.2 ⟨hx, hy⟩
    exact ⟨addB (x, y), List.mem_map.2 ⟨_, hp, rfl⟩, by rw [addB_val (hok _ hp), h1, h2]⟩
theorem minV_append {a b : List Buck} (ha : a ≠ []) (hb : b ≠ []) (t : Rat) : minV (a ++ b) t = if minV b t < minV a t then minV b t else minV a t := by
  have hm : ∀ x ∈ a ++ b, (if minV b t < minV a t then minV b t else minV a t) ≤ valQ x t := fun x hx => by
    rcases List.mem_append.1 hx with hx | hx
    · have := minV_le (t := t) hx
      split <;> grind
    · have := minV_le (t := t) hx
      split <;> grind
  refine minV_eq hm ?_
  split
  · obtain ⟨x, hx, h⟩ := minV_at hb t
    exact ⟨x, List.mem_append_right _ hx, h⟩
  · obtain ⟨x, hx, h⟩ := minV_at ha t
    exact ⟨x, List.mem_append_left _ hx, h⟩
theorem shiftB_b {x : Buck} {t : Rat} (ht : 0 ≤ t) (h : okv x t) : (shiftB t x).b = valQ x t := mk_b (shift_h ht h)
theorem shiftB_r {x : Buck} {t : Rat} (ht : 0 ≤ t) (h : okv x t) : (shiftB t x).r = x.r := mk_r (shift_h ht h)
theorem shiftB_val {x : Buck} {t : Rat} (ht : 0 ≤ t) (h : okv x t) (s : Rat) : valQ (shiftB t x) s = valQ x (s + t) := by
  show (shiftB t x).b + (shiftB t x).r * s = _
  rw [shiftB_b ht h, shiftB_r ht h]
  unfold valQ
  grind
theorem minV_shift {c : List Buck} (hc : c ≠ []) {t : Rat} (ht : 0 ≤ t) (hok : ∀ x ∈ c, okv x t) (s : Rat) : minV (c.map (shiftB t)) s = minV c (s + t) := by
  refine minV_eq (fun z hz => ?_) ?_
  · obtain ⟨x, hx, rfl⟩ := List.mem_map.1 hz
    rw [shiftB_val ht (hok x hx)]
    exact minV_le hx
  · obtain ⟨x, hx, h⟩ := minV_at hc (s + t)
    exact ⟨shiftB t x, List.mem_map.2 ⟨x, hx, rfl⟩, by rw [shiftB_val ht (hok x hx)]; exact h⟩
theorem minV_nonneg {c : List Buck} (hc : c ≠ []) {t : Rat} (ht : 0 ≤ t) : 0 ≤ minV c t := by
  obtain ⟨x, _, h⟩ := minV_at hc t
  rw [h]; exact val_nonneg ht

theorem rate_fold : ∀ (l : List Buck) (m : Buck), ((l.foldl rateStep m).r ≤ m.r ∧ (∀ x ∈ l, (l.foldl rateStep m).r ≤ x.r)) ∧ ((l.foldl rateStep m) = m ∨ (l.foldl rateStep m) ∈ l)
  | [], m => ⟨⟨Rat.le_refl, fun _ h => by cases h⟩, .inl rfl⟩
  | y :: l, m => by
    obtain ⟨⟨h1, h2⟩, h3⟩ := rate_fold l (rateStep m y)
    rw [List.foldl_cons]
    have hs : (rateStep m y).r ≤ m.r ∧ (rateStep m y).r ≤ y.r ∧ (rateStep m y = m ∨ rateStep m y = y) := by
      unfold rateStep
      by_cases h : y.r < m.r
      · rw [if_pos h]; exact ⟨Rat.le_of_lt h, Rat.le_refl, .inr rfl⟩
      · rw [if_neg h]; exact ⟨Rat.le_refl, Rat.not_lt.1 h, .inl rfl⟩
    refine ⟨⟨Rat.le_trans h1 hs.1, fun x hx => ?_⟩, ?_⟩
    · rcases List.mem_cons.1 hx with rfl | hx
      · exact Rat.le_trans h1 hs.2.1
      · exact h2 x hx
    · rcases h3 with h3 | h3
      · rcases hs.2.2 with h | h
        · exact .inl (h3.trans h)
        · exact .inr (by rw [h3, h]; simp)
      · exact .inr (List.mem_cons_of_mem _ h3)
theorem rateL_le {c : List Buck} {x : Buck} (h : x ∈ c) : rateL c ≤ x.r := by
  cases c with
  | nil => cases h
  | cons y l =>
    obtain ⟨⟨h1, h2⟩, _⟩ := rate_fold l y
    rcases List.mem_cons.1 h with rfl | h
    · exact h1
    · exact h2 x h
theorem rateL_at {c : List Buck} (h : c ≠ []) : ∃ x ∈ c, rateL c = x.r := by
  cases c with
  | nil => exact absurd rfl h
  | cons y l =>
    rcases (rate_fold l y).2 with h | h
    · exact ⟨y, by simp, congrArg Buck.r h⟩
    · exact ⟨_, List.mem_cons_of_mem _ h, rfl⟩

/-- A multiple of 1/D, at most K of them, with either sign. -/
def Gd (D K : Nat) (r : Rat) : Prop := ∃ k : Int, (-(K : Int) ≤ k ∧ k ≤ K) ∧ r = Rat.divInt k D
theorem gd_bd {D K : Nat} {r : Rat} (hD : 0 < D) (h : Gd D K r) : Bd r K D := by
  obtain ⟨k, hk, rfl⟩ := h
  exact bd_divInt (by omega) (by omega) (by simp)
theorem gd_fit {D K : Nat} {r : Rat} (h : Gd D K r) (hD : 0 < D) (h1 : D ≤ 1073741824) (h2 : K ≤ 1073741824) : Fit r := bd_le (gd_bd hD h) h2 h1
theorem gd_add {D K L : Nat} {r s : Rat} (hr : Gd D K r) (hs : Gd D L s) : Gd D (K + L) (r + s) := by
  obtain ⟨k, hk, rfl⟩ := hr
  obtain ⟨l, hl, rfl⟩ := hs
  refine ⟨k + l, by omega, ?_⟩
  rw [Rat.divInt_eq_div, Rat.divInt_eq_div, Rat.divInt_eq_div, Rat.intCast_add, Rat.div_def, Rat.div_def, Rat.div_def, Rat.add_mul]
theorem gd_neg {D K : Nat} {r : Rat} (hr : Gd D K r) : Gd D K (-r) := by
  obtain ⟨k, hk, rfl⟩ := hr
  refine ⟨-k, by omega, ?_⟩
  rw [Rat.divInt_eq_div, Rat.divInt_eq_div, Rat.intCast_neg, Rat.div_def, Rat.div_def, Rat.neg_mul]
theorem gd_sub {D K L : Nat} {r s : Rat} (hr : Gd D K r) (hs : Gd D L s) : Gd D (K + L) (r - s) := by
  rw [Rat.sub_eq_add_neg]; exact gd_add hr (gd_neg hs)
theorem gd_mul {D E K L : Nat} {r s : Rat} (hr : Gd D K r) (hs : Gd E L s) : Gd (D * E) (K * L) (r * s) := by
  obtain ⟨k, hk, rfl⟩ := hr
  obtain ⟨l, hl, rfl⟩ := hs
  refine ⟨k * l, ?_, ?_⟩
  · have h := Nat.mul_le_mul (show k.natAbs ≤ K by omega) (show l.natAbs ≤ L by omega)
    rw [← Int.natAbs_mul] at h
    omega
  · rw [Rat.divInt_mul_divInt, Int.natCast_mul]
theorem gd_scale {D K : Nat} {r : Rat} (c : Nat) (hc : 0 < c) (hr : Gd D K r) : Gd (D * c) (K * c) r := by
  obtain ⟨k, hk, rfl⟩ := hr
  refine ⟨k * c, ?_, ?_⟩
  · have h := Nat.mul_le_mul_right c (show k.natAbs ≤ K by omega)
    have e : (k * (c : Int)).natAbs = k.natAbs * c := by rw [Int.natAbs_mul]; simp
    omega
  · rw [Int.natCast_mul]; exact (Rat.divInt_mul_right (by omega)).symm
theorem gd_mono {D K L : Nat} {r : Rat} (h : Gd D K r) (hl : K ≤ L) : Gd D L r := by
  obtain ⟨k, hk, e⟩ := h
  exact ⟨k, by omega, e⟩
end Go.Proofs.Ythkgmgochgjpoaa
