/- Merged texts: Math, Small, Sg, BrkMath. -/
import Derived.Test.YtbncfknjgldcbaaGreatM4
/- The value of a curve as the least of its buckets' values; numbers on a grid. -/
namespace Go.Proofs.YtbncfknjgldcbaaGreat
open Go.RowKit Go.Shelf Go.Sort Num

theorem min_fold (t : Rat) : ∀ (l : List Buck) (m : Rat), (l.foldl (minStep t) m ≤ m ∧ (∀ x ∈ l, l.foldl (minStep t) m ≤ valQ x t)) ∧ (l.foldl (minStep t) m = m ∨ ∃ x ∈ l, l.foldl (minStep t) m = valQ x t)
  | [], m => ⟨⟨Rat.le_refl, fun _ h => by cases h⟩, .inl rfl⟩
  | y :: l, m => by
    obtain ⟨⟨h1, h2⟩, h3⟩ := min_fold t l (minStep t m y)
    rw [List.foldl_cons]
    have hs : minStep t m y ≤ m ∧ minStep t m y ≤ valQ y t ∧ (minStep t m y = m ∨ minStep t m y = valQ y t) := by
      unfold minStep
      by_cases h : valQ y t < m
      · rw [if_pos h]; exact ⟨Rat.le_of_lt h, Rat.le_refl, .inr rfl⟩
      · rw [if_neg h]; exact ⟨Rat.le_refl, Rat.not_lt.1 h, .inl rfl⟩
    refine ⟨⟨Rat.le_trans h1 hs.1, fun x hx => ?_⟩, ?_⟩
    · rcases List.mem_cons.1 hx with rfl | hx
      · exact Rat.le_trans h1 hs.2.1
      · exact h2 x hx
    · rcases h3 with h3 | ⟨x, hx, h3⟩
      · rcases hs.2.2 with h | h
        · exact .inl (h3.trans h)
        · exact .inr ⟨y, by simp, h3.trans h⟩
      · exact .inr ⟨x, List.mem_cons_of_mem _ hx, h3⟩
theorem minV_le {c : List Buck} {t : Rat} {x : Buck} (h : x ∈ c) : minV c t ≤ valQ x t := by
  cases c with
  | nil => cases h
  | cons y l =>
    obtain ⟨⟨h1, h2⟩, _⟩ := min_fold t l (valQ y t)
    rcases List.mem_cons.1 h with rfl | h
    · exact h1
    · exact h2 x h
theorem minV_at {c : List Buck} (h : c ≠ []) (t : Rat) : ∃ x ∈ c, minV c t = valQ x t := by
  cases c with
  | nil => exact absurd rfl h
  | cons y l =>
    rcases (min_fold t l (valQ y t)).2 with h | ⟨x, hx, h⟩
    · exact ⟨y, by simp, h⟩
    · exact ⟨x, List.mem_cons_of_mem _ hx, h⟩
theorem minV_eq {c : List Buck} {t m : Rat} (h1 : ∀ x ∈ c, m ≤ valQ x t) (h2 : ∃ x ∈ c, m = valQ x t) : minV c t = m := by
  obtain ⟨x, hx, h⟩ := h2
  obtain ⟨y, hy, k⟩ := minV_at (List.ne_nil_of_mem hx) t
  exact Rat.le_antisymm (h ▸ minV_le hx) (k ▸ h1 y hy)
theorem le_val {x y : Buck} (h : x.le y) {t : Rat} (ht : 0 ≤ t) : valQ x t ≤ valQ y t := by
  have := Rat.mul_le_mul_of_nonneg_right h.2 ht
  have := h.1
  unfold valQ
  grind
theorem minV_norm {c : List Buck} (hc : c ≠ []) {t : Rat} (ht : 0 ≤ t) : minV (normL c) t = minV c t := by
  have hn := normL_nf c
  refine minV_eq (fun x hx => minV_le (hn.s x hx)) ?_
  obtain ⟨x, hx, h⟩ := minV_at hc t
  obtain ⟨y, hy, hle⟩ := hn.c x hx
  exact ⟨y, hy, Rat.le_antisymm (minV_le (hn.s y hy)) (h ▸ le_val hle ht)⟩
theorem pairsL_mem {a b : List Buck} {p : Buck × Buck} : p ∈ pairsL a b ↔ p.1 ∈ a ∧ p.2 ∈ b := by
  unfold pairsL
  simp only [List.mem_flatMap, List.mem_map]
  constructor
  · rintro ⟨x, hx, y, hy, rfl⟩; exact ⟨hx, hy⟩
  · rintro ⟨h1, h2⟩; exact ⟨p.1, h1, p.2, h2, rfl⟩
theorem addB_val {p : Buck × Buck} (h : oka p) (t : Rat) : valQ (addB p) t = valQ p.1 t + valQ p.2 t := by
  unfold valQ addB
  rw [mk_b (add_h h), mk_r (add_h h)]
  grind
theorem minV_pairs {a b : List Buck} (ha : a ≠ []) (hb : b ≠ []) (hok : ∀ p ∈ pairsL a b, oka p) (t : Rat) : minV ((pairsL a b).map addB) t = minV a t + minV b t := by
  refine minV_eq (fun z hz => ?_) ?_
  · obtain ⟨p, hp, rfl⟩ := List.mem_map.1 hz
    obtain ⟨h1, h2⟩ := pairsL_mem.1 hp
    rw [addB_val (hok p hp)]
    have := minV_le (t := t) h1
    have := minV_le (t := t) h2
    grind
  · obtain ⟨x, hx, h1⟩ := minV_at ha t
    obtain ⟨y, hy, h2⟩ := minV_at hb t
    have hp : (x, y) ∈ pairsL a b := pairsL_mem.2 ⟨hx, hy⟩
    exact ⟨addB (x, y), List.mem_map.2 ⟨_, hp, rfl⟩, by rw [addB_val (hok _ hp), h1, h2]⟩
theorem minV_append {a b : List Buck} (ha : a ≠ []) (hb : b ≠ []) (t : Rat) : minV (a ++ b) t = if minV b t < minV a t then minV b t else minV a t := by
  have hm : ∀ x ∈ a ++ b, (if minV b t < minV a t then minV b t else minV a t) ≤ valQ x t := fun x hx => by
    rcases List.mem_append.1 hx with hx | hx
    · have := minV_le (t := t) hx
      split <;> grind
    · have := minV_le (t := t) hx
      split <;> grind
  refine minV_eq hm ?_
  split
  · obtain ⟨x, hx, h⟩ := minV_at hb t
    exact ⟨x, List.mem_append_right _ hx, h⟩
  · obtain ⟨x, hx, h⟩ := minV_at ha t
    exact ⟨x, List.mem_append_left _ hx, h⟩
theorem shiftB_b {x : Buck} {t : Rat} (ht : 0 ≤ t) (h : okv x t) : (shiftB t x).b = valQ x t := mk_b (shift_h ht h)
theorem shiftB_r {x : Buck} {t : Rat} (ht : 0 ≤ t) (h : okv x t) : (shiftB t x).r = x.r := mk_r (shift_h ht h)
theorem shiftB_val {x : Buck} {t : Rat} (ht : 0 ≤ t) (h : okv x t) (s : Rat) : valQ (shiftB t x) s = valQ x (s + t) := by
  show (shiftB t x).b + (shiftB t x).r * s = _
  rw [shiftB_b ht h, shiftB_r ht h]
  unfold valQ
  grind
theorem minV_shift {c : List Buck} (hc : c ≠ []) {t : Rat} (ht : 0 ≤ t) (hok : ∀ x ∈ c, okv x t) (s : Rat) : minV (c.map (shiftB t)) s = minV c (s + t) := by
  refine minV_eq (fun z hz => ?_) ?_
  · obtain ⟨x, hx, rfl⟩ := List.mem_map.1 hz
    rw [shiftB_val ht (hok x hx)]
    exact minV_le hx
  · obtain ⟨x, hx, h⟩ := minV_at hc (s + t)
    exact ⟨shiftB t x, List.mem_map.2 ⟨x, hx, rfl⟩, by rw [shiftB_val ht (hok x hx)]; exact h⟩
theorem minV_nonneg {c : List Buck} (hc : c ≠ []) {t : Rat} (ht : 0 ≤ t) : 0 ≤ minV c t := by
  obtain ⟨x, _, h⟩ := minV_at hc t
  rw [h]; exact val_nonneg ht

theorem rate_fold : ∀ (l : List Buck) (m : Buck), ((l.foldl rateStep m).r ≤ m.r ∧ (∀ x ∈ l, (l.foldl rateStep m).r ≤ x.r)) ∧ ((l.foldl rateStep m) = m ∨ (l.foldl rateStep m) ∈ l)
  | [], m => ⟨⟨Rat.le_refl, fun _ h => by cases h⟩, .inl rfl⟩
  | y :: l, m => by
    obtain ⟨⟨h1, h2⟩, h3⟩ := rate_fold l (rateStep m y)
    rw [List.foldl_cons]
    have hs : (rateStep m y).r ≤ m.r ∧ (rateStep m y).r ≤ y.r ∧ (rateStep m y = m ∨ rateStep m y = y) := by
      unfold rateStep
      by_cases h : y.r < m.r
      · rw [if_pos h]; exact ⟨Rat.le_of_lt h, Rat.le_refl, .inr rfl⟩
      · rw [if_neg h]; exact ⟨Rat.le_refl, Rat.not_lt.1 h, .inl rfl⟩
    refine ⟨⟨Rat.le_trans h1 hs.1, fun x hx => ?_⟩, ?_⟩
    · rcases List.mem_cons.1 hx with rfl | hx
      · exact Rat.le_trans h1 hs.2.1
      · exact h2 x hx
    · rcases h3 with h3 | h3
      · rcases hs.2.2 with h | h
        · exact .inl (h3.trans h)
        · exact .inr (by rw [h3, h]; simp)
      · exact .inr (List.mem_cons_of_mem _ h3)
theorem rateL_le {c : List Buck} {x : Buck} (h : x ∈ c) : rateL c ≤ x.r := by
  cases c with
  | nil => cases h
  | cons y l =>
    obtain ⟨⟨h1, h2⟩, _⟩ := rate_fold l y
    rcases List.mem_cons.1 h with rfl | h
    · exact h1
    · exact h2 x h
theorem rateL_at {c : List Buck} (h : c ≠ []) : ∃ x ∈ c, rateL c = x.r := by
  cases c with
  | nil => exact absurd rfl h
  | cons y l =>
    rcases (rate_fold l y).2 with h | h
    · exact ⟨y, by simp, congrArg Buck.r h⟩
    · exact ⟨_, List.mem_cons_of_mem _ h, rfl⟩

/-- A multiple of 1/D, at most K of them, with either sign. -/
def Gd (D K : Nat) (r : Rat) : Prop := ∃ k : Int, (-(K : Int) ≤ k ∧ k ≤ K) ∧ r = Rat.divInt k D
theorem gd_bd {D K : Nat} {r : Rat} (hD : 0 < D) (h : Gd D K r) : Bd r K D := by
  obtain ⟨k, hk, rfl⟩ := h
  exact bd_divInt (by omega) (by omega) (by simp)
theorem gd_fit {D K : Nat} {r : Rat} (h : Gd D K r) (hD : 0 < D) (h1 : D ≤ 1073741824) (h2 : K ≤ 1073741824) : Fit r := bd_le (gd_bd hD h) h2 h1
theorem gd_add {D K L : Nat} {r s : Rat} (hr : Gd D K r) (hs : Gd D L s) : Gd D (K + L) (r + s) := by
  obtain ⟨k, hk, rfl⟩ := hr
  obtain ⟨l, hl, rfl⟩ := hs
  refine ⟨k + l, by omega, ?_⟩
  rw [Rat.divInt_eq_div, Rat.divInt_eq_div, Rat.divInt_eq_div, Rat.intCast_add, Rat.div_def, Rat.div_def, Rat.div_def, Rat.add_mul]
theorem gd_neg {D K : Nat} {r : Rat} (hr : Gd D K r) : Gd D K (-r) := by
  obtain ⟨k, hk, rfl⟩ := hr
  refine ⟨-k, by omega, ?_⟩
  rw [Rat.divInt_eq_div, Rat.divInt_eq_div, Rat.intCast_neg, Rat.div_def, Rat.div_def, Rat.neg_mul]
theorem gd_sub {D K L : Nat} {r s : Rat} (hr : Gd D K r) (hs : Gd D L s) : Gd D (K + L) (r - s) := by
  rw [Rat.sub_eq_add_neg]; exact gd_add hr (gd_neg hs)
theorem gd_mul {D E K L : Nat} {r s : Rat} (hr : Gd D K r) (hs : Gd E L s) : Gd (D * E) (K * L) (r * s) := by
  obtain ⟨k, hk, rfl⟩ := hr
  obtain ⟨l, hl, rfl⟩ := hs
  refine ⟨k * l, ?_, ?_⟩
  · have h := Nat.mul_le_mul (show k.natAbs ≤ K by omega) (show l.natAbs ≤ L by omega)
    rw [← Int.natAbs_mul] at h
    omega
  · rw [Rat.divInt_mul_divInt, Int.natCast_mul]
theorem gd_scale {D K : Nat} {r : Rat} (c : Nat) (hc : 0 < c) (hr : Gd D K r) : Gd (D * c) (K * c) r := by
  obtain ⟨k, hk, rfl⟩ := hr
  refine ⟨k * c, ?_, ?_⟩
  · have h := Nat.mul_le_mul_right c (show k.natAbs ≤ K by omega)
    have e : (k * (c : Int)).natAbs = k.natAbs * c := by rw [Int.natAbs_mul]; simp
    omega
  · rw [Int.natCast_mul]; exact (Rat.divInt_mul_right (by omega)).symm
theorem gd_mono {D K L : Nat} {r : Rat} (h : Gd D K r) (hl : K ≤ L) : Gd D L r := by
  obtain ⟨k, hk, e⟩ := h
  exact ⟨k, by omega, e⟩
end Go.Proofs.YtbncfknjgldcbaaGreat
/- The law package's Small, point and at. -/
namespace Go.Proofs.YtbncfknjgldcbaaGreat
open Go.RowKit Go.Joins Go.Shelf Go.Sort Num

/-- The bytes of an argument. -/
def ByRow (w : World) (A : Option Addr) (zs : List Int) : Prop := zs ≠ [] → ∃ b off, A = some ⟨b, off, none⟩ ∧ b < w.heap.size ∧ ∀ k z, zs[k]? = some z → w.cell? ⟨b, off + k, none⟩ = some (.int .u8 z)
theorem ByRow.keep {w w' : World} {A : Option Addr} {zs : List Int} (h : ByRow w A zs) (hb : Below w.heap.size w w') : ByRow w' A zs := fun hz => by
  obtain ⟨b, off, e, hl, hr⟩ := h hz
  exact ⟨b, off, e, Nat.lt_of_lt_of_le hl hb.size, fun k z hk => (hb.cell (p := ⟨b, off + k, none⟩) hl).trans (hr k z hk)⟩
theorem cl_byRow (A : Option Addr) (zs : List Int) : Cl (fun W => ByRow W A zs) := fun _ _ h hb => h.keep hb

/-- The bucket of two bytes. -/
def smB (x y : Int) : Buck := mkBuck (Rat.divInt (x % 101) 1) (Rat.divInt (y % 41) 8)
theorem sm_h (x y : Int) : (Fit (Rat.divInt (x % 101) 1) ∧ Fit (Rat.divInt (y % 41) 8)) ∧ (0 ≤ Rat.divInt (x % 101) 1 ∧ 0 ≤ Rat.divInt (y % 41) 8) :=
  ⟨⟨bd_divInt (by decide) (by omega) (by decide), bd_divInt (by decide) (by omega) (by decide)⟩, Rat.divInt_nonneg (by omega) (by decide), Rat.divInt_nonneg (by omega) (by decide)⟩
theorem smB_b (x y : Int) : (smB x y).b = Rat.divInt (x % 101) 1 := mk_b (sm_h x y)
theorem smB_r (x y : Int) : (smB x y).r = Rat.divInt (y % 41) 8 := mk_r (sm_h x y)
/-- The first k buckets. -/
def smTo (zs : List Int) (k : Nat) : List Buck := (List.range k).map fun i => smB (zs.getD (2 * i) 0) (zs.getD (2 * i + 1) 0)
theorem smTo_succ (zs : List Int) (k : Nat) : smTo zs (k + 1) = smTo zs k ++ [smB (zs.getD (2 * k) 0) (zs.getD (2 * k + 1) 0)] := by unfold smTo; rw [List.range_succ, List.map_append]; rfl
theorem smTo_len (zs : List Int) (k : Nat) : (smTo zs k).length = k := by simp [smTo]
def smN (zs : List Int) : Nat := min 4 (zs.length / 2)
def smD : Buck := mkBuck 7 (1 / 8)
/-- The curve of an argument. -/
def small (zs : List Int) : List Buck := if smN zs = 0 then [smD] else smTo zs (smN zs)
theorem small_len (zs : List Int) : 1 ≤ (small zs).length ∧ (small zs).length ≤ 4 := by
  unfold small
  split
  · exact ⟨Nat.le_refl _, by decide⟩
  · rw [smTo_len]; unfold smN at *; omega
/-- What is known of its buckets. -/
structure Sm (x : Buck) : Prop where
  b : Gd 1 100 x.b
  r : Gd 8 40 x.r
theorem small_sm (zs : List Int) : ∀ x ∈ small zs, Sm x := by
  intro x hx
  unfold small at hx
  split at hx
  · simp only [List.mem_singleton] at hx
    subst hx
    exact ⟨⟨7, by decide, by decide +kernel⟩, ⟨1, by decide, by decide +kernel⟩⟩
  · simp only [smTo, List.mem_map] at hx
    obtain ⟨i, _, rfl⟩ := hx
    exact ⟨⟨_, by omega, smB_b _ _⟩, ⟨_, by omega, smB_r _ _⟩⟩
theorem mk_fit {n d : Int} (h1 : -1073741824 ≤ n ∧ n ≤ 1073741824) (h2 : 1 ≤ d ∧ d ≤ 1073741824) : mkN n d = ((Rat.divInt n d).num, ((Rat.divInt n d).den : Int), 0) := by
  rw [mk_ofR n d (by omega)]
  exact ofR_yes (bd_divInt (by omega) (by omega) (by omega))

end Go.Proofs.YtbncfknjgldcbaaGreat
/- Buckets on a grid: what fits. -/
namespace Go.Proofs.YtbncfknjgldcbaaGreat
open Go.RowKit Go.Joins Go.Shelf Go.Sort Num

/-- A bucket whose burst is on the grid of 1/32, whose rate on that of 1/8. -/
structure Sg (B R : Nat) (x : Buck) : Prop where
  b : Gd 32 B x.b
  r : Gd 8 R x.r
theorem Sm.sg {x : Buck} (h : Sm x) : Sg 3200 40 x := ⟨gd_scale (D := 1) 32 (by decide) h.b, h.r⟩
theorem small_sg (zs : List Int) : ∀ x ∈ small zs, Sg 3200 40 x := fun x hx => (small_sm zs x hx).sg
theorem small_ne (zs : List Int) : small zs ≠ [] := fun h => by have := (small_len zs).1; rw [h] at this; simp at this
theorem sg_mul {B R K : Nat} {x : Buck} (h : Sg B R x) {t : Rat} (ht : Gd 4 K t) : Gd 32 (R * K) (x.r * t) := gd_mul (D := 8) (E := 4) h.r ht
theorem sg_val {B R K : Nat} {x : Buck} (h : Sg B R x) {t : Rat} (ht : Gd 4 K t) : Gd 32 (B + R * K) (valQ x t) := gd_add h.b (sg_mul h ht)
theorem sg_ok {B R K : Nat} {x : Buck} (h : Sg B R x) {t : Rat} (ht : Gd 4 K t) (hk : B + R * K ≤ 1073741824) : okv x t :=
  ⟨gd_fit (sg_mul h ht) (by decide) (by decide) (by omega), gd_fit (sg_val h ht) (by decide) (by decide) hk⟩
theorem sg_min {B R K : Nat} {c : List Buck} (hc : c ≠ []) (h : ∀ x ∈ c, Sg B R x) {t : Rat} (ht : Gd 4 K t) : Gd 32 (B + R * K) (minV c t) := by
  obtain ⟨x, hx, e⟩ := minV_at hc t
  rw [e]; exact sg_val (h x hx) ht
theorem sg_add {B R C S : Nat} {p : Buck × Buck} (h1 : Sg B R p.1) (h2 : Sg C S p.2) (hb : B + C ≤ 1073741824) (hr : R + S ≤ 1073741824) : oka p ∧ Sg (B + C) (R + S) (addB p) := by
  have g1 := gd_add h1.b h2.b
  have g2 := gd_add h1.r h2.r
  have hok : oka p := ⟨gd_fit g1 (by decide) (by decide) hb, gd_fit g2 (by decide) (by decide) hr⟩
  refine ⟨hok, ?_, ?_⟩
  · unfold addB; rw [mk_b (add_h hok)]; exact g1
  · unfold addB; rw [mk_r (add_h hok)]; exact g2
theorem sg_shift {B R K : Nat} {x : Buck} (h : Sg B R x) {t : Rat} (ht : Gd 4 K t) (ht0 : 0 ≤ t) (hk : B + R * K ≤ 1073741824) : Sg (B + R * K) R (shiftB t x) := by
  have hok := sg_ok h ht hk
  exact ⟨by rw [shiftB_b ht0 hok]; exact sg_val h ht, by rw [shiftB_r ht0 hok]; exact h.r⟩
theorem sg_norm {B R : Nat} {c : List Buck} (h : ∀ x ∈ c, Sg B R x) : ∀ x ∈ normL c, Sg B R x := fun x hx => h x ((normL_nf c).s x hx)
theorem add_yes {r s : Rat} (hr : Fit r) (hs : Fit s) (h : Fit (r + s)) (w : World) : Calls Tryz.prog 45 #[.agg #[.int .i64 r.num, .int .i64 r.den], .agg #[.int .i64 s.num, .int .i64 s.den]] w fun e w' => e = .returned (.tuple #[.agg #[.int .i64 (r + s).num, .int .i64 (r + s).den], .int .i64 0]) ∧ Below w.heap.size w w' := by
  have := add_r hr hs w
  rw [ofR_yes h] at this
  exact this
theorem sub_yes {r s : Rat} (hr : Fit r) (hs : Fit s) (h : Fit (r - s)) (w : World) : Calls Tryz.prog 71 #[.agg #[.int .i64 r.num, .int .i64 r.den], .agg #[.int .i64 s.num, .int .i64 s.den]] w fun e w' => e = .returned (.tuple #[.agg #[.int .i64 (r - s).num, .int .i64 (r - s).den], .int .i64 0]) ∧ Below w.heap.size w w' := by
  have := sub_r hr hs w
  rw [ofR_yes h] at this
  exact this
theorem mul_yes {r s : Rat} (hr : Fit r) (hs : Fit s) (h : Fit (r * s)) (w : World) : Calls Tryz.prog 77 #[.agg #[.int .i64 r.num, .int .i64 r.den], .agg #[.int .i64 s.num, .int .i64 s.den]] w fun e w' => e = .returned (.tuple #[.agg #[.int .i64 (r * s).num, .int .i64 (r * s).den], .int .i64 0]) ∧ Below w.heap.size w w' := by
  have := mul_r hr hs w
  rw [ofR_yes h] at this
  exact this
theorem div_yes {r s : Rat} (hr : Fit r) (hs : Fit s) (h0 : s ≠ 0) (h : Fit (r / s)) (w : World) : Calls Tryz.prog 70 #[.agg #[.int .i64 r.num, .int .i64 r.den], .agg #[.int .i64 s.num, .int .i64 s.den]] w fun e w' => e = .returned (.tuple #[.agg #[.int .i64 (r / s).num, .int .i64 (r / s).den], .int .i64 0]) ∧ Below w.heap.size w w' := by
  have := div_r hr hs w h0
  rw [ofR_yes h] at this
  exact this
theorem _root_.Go.Proofs.YtbncfknjgldcbaaGreat.Kept.box {w W : World} {l : List (World → Prop)} (k : Kept w l W) (n d : Int) : Kept w (isR W.heap.size n d :: l) (W.alloc (.cells #[.int .i64 n, .int .i64 d] 25)) :=
  (k.alloc _).add (cl_isR W.heap.size n d) (Has.new W n d 25)
theorem _root_.Go.Proofs.YtbncfknjgldcbaaGreat.Kept.box2 {w W : World} {l : List (World → Prop)} (k : Kept w l W) (n d m e : Int) : Kept w (isR (W.heap.size + 1) m e :: isR W.heap.size n d :: l) ((W.alloc (.cells #[.int .i64 n, .int .i64 d] 25)).alloc (.cells #[.int .i64 m, .int .i64 e] 25)) := by
  have := (k.box n d).box m e
  rwa [World.size_alloc] at this
/-- What a law is handed: bytes. -/
structure Nums (W : World) (A : Option Addr) (zs : List Int) : Prop where
  row : ByRow W A zs
  len : zs.length ≤ 9223372036854775807
  bd : ∀ z ∈ zs, 0 ≤ z ∧ z ≤ 255
theorem Nums.keep {W W' : World} {A : Option Addr} {zs : List Int} (h : Nums W A zs) (hb : Below W.heap.size W W') : Nums W' A zs := ⟨h.row.keep hb, h.len, h.bd⟩
end Go.Proofs.YtbncfknjgldcbaaGreat
/- Breakpoints: positive, increasing; between two of them the curve is linear. -/
namespace Go.Proofs.YtbncfknjgldcbaaGreat.BrkLaw
open Go.RowKit Go.Shelf Go.Sort Num

theorem sub_pos' {a b : Rat} (h : a < b) : 0 < b - a := by grind
theorem meet_mul {u v : Buck} (h : u.bef v) : meetQ (u, v) * (u.r - v.r) = v.b - u.b := by
  have h0 : u.r - v.r ≠ 0 := meet_ne (p := (u, v)) h
  unfold meetQ
  exact Rat.div_mul_cancel h0
/-- Up to the point of meeting the earlier one is below. -/
theorem meet_le {u v : Buck} (h : u.bef v) {t : Rat} (ht : t ≤ meetQ (u, v)) : valQ u t ≤ valQ v t := by
  have h1 := meet_mul h
  have h2 := Rat.mul_le_mul_of_nonneg_right ht (Rat.le_of_lt (sub_pos' h.2))
  unfold valQ
  grind
theorem meet_ge {u v : Buck} (h : u.bef v) {t : Rat} (ht : meetQ (u, v) ≤ t) : valQ v t ≤ valQ u t := by
  have h1 := meet_mul h
  have h2 := Rat.mul_le_mul_of_nonneg_right ht (Rat.le_of_lt (sub_pos' h.2))
  unfold valQ
  grind
theorem meet_lt {u v : Buck} (h : u.bef v) {t : Rat} (ht : valQ v t < valQ u t) : meetQ (u, v) < t := Rat.not_le.1 fun k => Rat.not_le.2 ht (meet_le h k)
theorem meet_gt {u v : Buck} (h : u.bef v) {t : Rat} (ht : valQ u t < valQ v t) : t < meetQ (u, v) := Rat.not_le.1 fun k => Rat.not_le.2 ht (meet_ge h k)
theorem meet_pos {u v : Buck} (h : u.bef v) : 0 < meetQ (u, v) := by
  have h1 : valQ u 0 < valQ v 0 := by unfold valQ; have := h.1; grind
  exact meet_gt h h1
theorem mul_lt {a b c : Rat} (h : a < b) (hc : 0 < c) : a * c < b * c := Rat.mul_lt_mul_of_pos_right h hc
/-- Strictly behind the point the later one is strictly below. -/
theorem meet_slt {u v : Buck} (h : u.bef v) {t : Rat} (ht : meetQ (u, v) < t) : valQ v t < valQ u t := by
  have h1 := meet_mul h
  have h2 := mul_lt ht (sub_pos' h.2)
  unfold valQ
  grind
theorem meet_sgt {u v : Buck} (h : u.bef v) {t : Rat} (ht : t < meetQ (u, v)) : valQ u t < valQ v t := by
  have h1 := meet_mul h
  have h2 := mul_lt ht (sub_pos' h.2)
  unfold valQ
  grind
theorem twos_of {N : List Buck} (hp : N.Pairwise Buck.bef) {p q : Buck} (h1 : p ∈ N) (h2 : q ∈ N) (hne : p ≠ q) : (p, q) ∈ twosL N ∨ (q, p) ∈ twosL N := by
  induction N with
  | nil => cases h1
  | cons x l ih =>
    rw [List.pairwise_cons] at hp
    simp only [twosL, List.mem_append, List.mem_map]
    rcases List.mem_cons.1 h1 with e1 | e1 <;> rcases List.mem_cons.1 h2 with e2 | e2
    · exact absurd (e1.trans e2.symm) hne
    · exact .inl (.inl ⟨q, e2, by rw [e1]⟩)
    · exact .inr (.inl ⟨p, e1, by rw [e2]⟩)
    · rcases ih hp.2 e1 e2 with h | h
      · exact .inl (.inr h)
      · exact .inr (.inr h)
/-- Where no point of meeting lies strictly between, the curve is linear. -/
theorem linear {N : List Buck} (hN : N ≠ []) (hp : N.Pairwise Buck.bef) {x y m : Rat} (hxy : x ≤ y) (hm : m + m = x + y) (hno : ∀ p ∈ twosL N, ¬ (x < meetQ p ∧ meetQ p < y)) :
    minV N m + minV N m = minV N x + minV N y := by
  have hxm : x ≤ m := by grind
  have hmy : m ≤ y := by grind
  obtain ⟨p, hpm, hpe⟩ := minV_at hN m
  have atx : minV N x = valQ p x := by
    refine minV_eq (fun q hq => ?_) ⟨p, hpm, rfl⟩
    refine Rat.not_lt.1 fun hlt => ?_
    have hle : valQ p m ≤ valQ q m := hpe ▸ minV_le hq
    have hne : p ≠ q := by rintro rfl; exact Rat.lt_irrefl hlt
    rcases twos_of hp hpm hq hne with h | h
    · have hb := twosL_mem hp _ h
      have k1 := meet_lt hb hlt
      exact Rat.not_lt.2 hle (meet_slt hb (by grind))
    · have hb := twosL_mem hp _ h
      have k1 := meet_gt hb hlt
      have k2 : meetQ (q, p) ≤ m := Rat.not_lt.1 fun k => Rat.not_lt.2 hle (meet_sgt hb k)
      exact hno _ h ⟨k1, by grind⟩
  have aty : minV N y = valQ p y := by
    refine minV_eq (fun q hq => ?_) ⟨p, hpm, rfl⟩
    refine Rat.not_lt.1 fun hlt => ?_
    have hle : valQ p m ≤ valQ q m := hpe ▸ minV_le hq
    have hne : p ≠ q := by rintro rfl; exact Rat.lt_irrefl hlt
    rcases twos_of hp hpm hq hne with h | h
    · have hb := twosL_mem hp _ h
      have k1 := meet_lt hb hlt
      have k2 : m ≤ meetQ (p, q) := Rat.not_lt.1 fun k => Rat.not_lt.2 hle (meet_slt hb k)
      exact hno _ h ⟨by grind, k1⟩
    · have hb := twosL_mem hp _ h
      have k1 := meet_gt hb hlt
      exact Rat.not_lt.2 hle (meet_sgt hb (by grind))
  rw [atx, aty, hpe]
  unfold valQ
  have : p.r * m + p.r * m = p.r * x + p.r * y := by rw [← Rat.mul_add, hm, Rat.mul_add]
  grind

/-- Points in their order, each once. -/
theorem comp_fold : ∀ (l acc : List Pt), acc.Pairwise (fun a b => a.q < b.q) → (∀ a ∈ acc, ∀ b ∈ l, a.q ≤ b.q) → l.Pairwise (fun a b => a.q ≤ b.q) →
    (l.foldl stepP acc).Pairwise (fun a b => a.q < b.q) ∧ ∀ z, z ∈ l.foldl stepP acc ↔ z ∈ acc ∨ z ∈ l
  | [], acc, h, _, _ => ⟨h, fun z => by simp⟩
  | x :: l, acc, h1, h2, h3 => by
    rw [List.foldl_cons]
    rw [List.pairwise_cons] at h3
    by_cases hl : acc.getLast? = some x
    · have e : stepP acc x = acc := if_pos hl
      rw [e]
      obtain ⟨a, b⟩ := comp_fold l acc h1 (fun a ha b hb => h2 a ha b (List.mem_cons_of_mem _ hb)) h3.2
      refine ⟨a, fun z => ?_⟩
      rw [b, List.mem_cons]
      constructor
      · rintro (h | h)
        · exact .inl h
        · exact .inr (.inr h)
      · rintro (h | h | h)
        · exact .inl h
        · subst h; exact .inl (List.mem_of_getLast? hl)
        · exact .inr h
    · have e : stepP acc x = acc ++ [x] := if_neg hl
      rw [e]
      have hlt : ∀ a ∈ acc, a.q < x.q := fun a ha => by
        have hle := h2 a ha x (by simp)
        rcases Rat.le_iff_lt_or_eq.1 hle with h | h
        · exact h
        · exfalso
          rcases List.eq_nil_or_concat acc with rfl | ⟨init, z, rfl⟩
          · cases ha
          · rw [List.concat_eq_append] at *
            have hzx := h2 z (by simp) x (by simp)
            have hz : z ≠ x := fun e => hl (by rw [List.getLast?_concat, e])
            rcases List.mem_append.1 ha with ha | ha
            · have := (List.pairwise_append.1 h1).2.2 a ha z (by simp)
              grind
            · simp only [List.mem_singleton] at ha
              subst ha
              exact hz (Pt.ext' h)
      obtain ⟨a, b⟩ := comp_fold l (acc ++ [x]) (by
        rw [List.pairwise_append]
        exact ⟨h1, List.pairwise_singleton _ _, fun a ha b hb => by simp only [List.mem_singleton] at hb; subst hb; exact hlt a ha⟩)
        (fun a ha b hb => by
          rcases List.mem_append.1 ha with ha | ha
          · exact h2 a ha b (List.mem_cons_of_mem _ hb)
          · simp only [List.mem_singleton] at ha; subst ha; exact h3.1 b hb) h3.2
      refine ⟨a, fun z => ?_⟩
      rw [b]
      simp [or_assoc]
theorem sortP_pw (c : List Pt) : (sortP c).Pairwise (fun a b => a.q ≤ b.q) := by
  have h := List.pairwise_mergeSort (le := fun x y => !(ltOf Pt.ord) y x) (fun x y z h1 h2 => by
    simp only [Bool.not_eq_true', ptlt_not] at h1 h2 ⊢
    grind) (fun x y => by
    simp only [Bool.or_eq_true, Bool.not_eq_true', ptlt_not]
    grind) c
  exact h.imp fun {x y} k => by simp only [Bool.not_eq_true', ptlt_not] at k; exact Rat.not_lt.1 k
theorem brk_spec (N : List Buck) : (brkL N).Pairwise (fun a b => a.q < b.q) ∧ ∀ z, z ∈ brkL N ↔ z ∈ (twosL N).map meetP := by
  obtain ⟨h1, h2⟩ := comp_fold (sortP ((twosL N).map meetP)) [] .nil (fun _ h => by cases h) (sortP_pw _)
  refine ⟨h1, fun z => ?_⟩
  show z ∈ (sortP ((twosL N).map meetP)).foldl stepP [] ↔ _
  rw [h2]
  simp [sortP, List.mem_mergeSort]
theorem bd_quot {r s : Rat} {A B C D : Nat} (hr : Bd r A B) (hs : Bd s C D) (h0 : 0 < s) : Bd (r / s) (A * D) (B * C) := by
  rw [div_divInt]
  have hn : 0 < s.num := by
    have h1 : 0 ≤ s.num := Rat.num_nonneg.2 (Rat.le_of_lt h0)
    have h2 : s.num ≠ 0 := fun e => by rw [Rat.num_eq_zero.1 e] at h0; exact Rat.lt_irrefl h0
    omega
  have hd := r.den_pos
  refine bd_divInt (Int.mul_pos (by omega) hn) ?_ ?_
  · rw [Int.natAbs_mul]; exact Nat.mul_le_mul hr.1 (by simpa using hs.2)
  · rw [Int.natAbs_mul]; exact Nat.mul_le_mul (by simpa using hr.2) hs.1
theorem sm_okm {N : List Buck} (hp : N.Pairwise Buck.bef) (hs : ∀ x ∈ N, Sm x) : ∀ p ∈ twosL N, okm p := fun p h => by
  have hb := twosL_mem hp p h
  obtain ⟨h1, h2⟩ := twosL_sub p h
  have g1 := gd_sub (hs _ h2).b (hs _ h1).b
  have g2 := gd_sub (hs _ h1).r (hs _ h2).r
  refine ⟨⟨gd_fit g1 (by decide) (by decide) (by decide), gd_fit g2 (by decide) (by decide) (by decide)⟩, meet_ne hb, ?_⟩
  exact bd_le (bd_quot (gd_bd (by decide) g1) (gd_bd (by decide) g2) (sub_pos' hb.2)) (by decide) (by decide)
end Go.Proofs.YtbncfknjgldcbaaGreat.BrkLaw
