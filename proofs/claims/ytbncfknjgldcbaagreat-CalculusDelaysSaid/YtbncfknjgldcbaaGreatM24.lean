/- Merged texts: CMx, CLin, CFit, CChM. -/
import Derived.Test.YtbncfknjgldcbaaGreatM1
import Derived.Test.YtbncfknjgldcbaaGreatM22
import Derived.Test.YtbncfknjgldcbaaGreatM15
import Derived.Test.YtbncfknjgldcbaaGreatM23
/- The greatest value at whole points: a function that is a straight line between given points has it at one of their floors or ceilings. -/
namespace Go.Proofs.YtbncfknjgldcbaaGreat.Mx
/-- On an interval f is a straight line. -/
def Aff (f : Rat → Rat) (x y : Rat) : Prop := ∃ a b : Rat, ∀ s, x ≤ s → s ≤ y → f s = a + b * s
theorem Aff.add {f g : Rat → Rat} {x y : Rat} (hf : Aff f x y) (hg : Aff g x y) : Aff (fun s => f s + g s) x y := by
  obtain ⟨a, b, h⟩ := hf
  obtain ⟨c, d, k⟩ := hg
  exact ⟨a + c, b + d, fun s h1 h2 => by simp only [h s h1 h2, k s h1 h2]; grind⟩
theorem Aff.scale {f : Rat → Rat} {x y : Rat} (q : Rat) (hf : Aff f x y) : Aff (fun s => f s * q) x y := by
  obtain ⟨a, b, h⟩ := hf
  exact ⟨a * q, b * q, fun s h1 h2 => by simp only [h s h1 h2]; grind⟩
theorem Aff.line {x y : Rat} (a b : Rat) : Aff (fun s => a + b * s) x y := ⟨a, b, fun _ _ _ => rfl⟩
theorem Aff.congr {f g : Rat → Rat} {x y : Rat} (hf : Aff f x y) (h : ∀ s, x ≤ s → s ≤ y → g s = f s) : Aff g x y := by
  obtain ⟨a, b, k⟩ := hf
  exact ⟨a, b, fun s h1 h2 => (h s h1 h2).trans (k s h1 h2)⟩
theorem Aff.ends {f : Rat → Rat} {x y : Rat} (hf : Aff f x y) {t : Rat} (h1 : x ≤ t) (h2 : t ≤ y) : f t ≤ f x ∨ f t ≤ f y := by
  obtain ⟨a, b, h⟩ := hf
  rw [h t h1 h2, h x Rat.le_refl (Rat.le_trans h1 h2), h y (Rat.le_trans h1 h2) Rat.le_refl]
  by_cases hb : 0 ≤ b
  · right
    have := Rat.mul_le_mul_of_nonneg_left h2 hb
    grind
  · left
    have hb' : 0 ≤ -b := by grind
    have := Rat.mul_le_mul_of_nonneg_left h1 hb'
    grind
theorem greatest_le {l : List Int} {t : Int} (h : ∃ z ∈ l, z ≤ t) : ∃ m ∈ l, m ≤ t ∧ ∀ z ∈ l, z ≤ t → z ≤ m := by
  induction l with
  | nil => obtain ⟨z, hz, _⟩ := h; cases hz
  | cons x l ih =>
    by_cases hl : ∃ z ∈ l, z ≤ t
    · obtain ⟨m, hm, h1, h2⟩ := ih hl
      by_cases hx : x ≤ t ∧ m ≤ x
      · exact ⟨x, by simp, hx.1, fun z hz hzt => by rcases List.mem_cons.1 hz with rfl | hz; exact Int.le_refl _; have := h2 z hz hzt; omega⟩
      · exact ⟨m, by simp [hm], h1, fun z hz hzt => by rcases List.mem_cons.1 hz with rfl | hz; omega; exact h2 z hz hzt⟩
    · obtain ⟨z, hz, hzt⟩ := h
      rcases List.mem_cons.1 hz with rfl | hz'
      · exact ⟨z, by simp, hzt, fun y hy hyt => by rcases List.mem_cons.1 hy with rfl | hy; exact Int.le_refl _; exact absurd ⟨y, hy, hyt⟩ hl⟩
      · exact absurd ⟨z, hz', hzt⟩ hl
theorem least_ge (l : List Int) (t : Int) : (∀ z ∈ l, z < t) ∨ ∃ m ∈ l, t ≤ m ∧ ∀ z ∈ l, t ≤ z → m ≤ z := by
  by_cases h : ∃ z ∈ l.map (fun x => -x), z ≤ -t
  · right
    obtain ⟨m, hm, h1, h2⟩ := greatest_le h
    obtain ⟨x, hx, rfl⟩ := List.mem_map.1 hm
    exact ⟨x, hx, by omega, fun z hz hzt => by have := h2 (-z) (List.mem_map.2 ⟨z, hz, rfl⟩) (by omega); omega⟩
  · left
    intro z hz
    refine Int.not_le.1 fun hzt => h ⟨-z, List.mem_map.2 ⟨z, hz, rfl⟩, by omega⟩
/-- A function that is a straight line between the points Q, and does not rise behind the last one, is at whole points nowhere greater than at the points' floors and ceilings. -/
theorem top (f : Rat → Rat) (Q : Rat → Prop) (T : List Int) (h0 : 0 ∈ T) (hfl : ∀ q, Q q → q.floor ∈ T) (hce : ∀ q, Q q → -(-q).floor ∈ T)
    (haff : ∀ x y : Rat, 0 ≤ x → x ≤ y → (∀ q, Q q → ¬ (x < q ∧ q < y)) → Aff f x y) (hend : ∀ x : Rat, 0 ≤ x → (∀ q, Q q → ¬ x < q) → ∀ s, x ≤ s → f s ≤ f x)
    (t : Int) (ht : 0 ≤ t) : ∃ z ∈ T, f t ≤ f z := by
  obtain ⟨z0, m0, h1, h2⟩ := greatest_le (l := T) (t := t) ⟨0, h0, ht⟩
  have hz0 : 0 ≤ z0 := h2 0 h0 ht
  have up : ∀ q, Q q → (z0 : Rat) < q → t < -(-q).floor := fun q hq hlt => by
    refine Int.not_le.1 fun hle => ?_
    have k1 := h2 _ (hce q hq) hle
    have k2 := Rat.floor_le (-q)
    have k3 : ((-(-q).floor : Int) : Rat) ≤ (z0 : Rat) := Rat.intCast_le_intCast.2 k1
    rw [Rat.intCast_neg] at k3
    grind
  by_cases he : z0 = t
  · exact ⟨z0, m0, by rw [he]; exact Rat.le_refl⟩
  rcases least_ge T t with hall | ⟨z1, m1, k1, k2⟩
  · refine ⟨z0, m0, hend z0 (Rat.intCast_le_intCast.2 hz0) (fun q hq hlt => ?_) t (Rat.intCast_le_intCast.2 h1)⟩
    have := up q hq hlt
    have := hall _ (hce q hq)
    omega
  · have A := haff z0 z1 (Rat.intCast_le_intCast.2 hz0) (Rat.intCast_le_intCast.2 (by omega)) fun q hq ⟨a, b⟩ => by
      have c1 := up q hq a
      have c2 := k2 _ (hce q hq) (by omega)
      have c3 : q.floor < z1 := Rat.intCast_lt_intCast.1 (by have := Rat.floor_le q; grind)
      have c4 : q.floor ≤ t := Int.not_lt.1 fun c => by have := k2 _ (hfl q hq) (by omega); omega
      have c5 := h2 _ (hfl q hq) c4
      have c6 : (-(-q).floor : Int) ≤ q.floor + 1 := by
        have : -(q.floor + 1) ≤ (-q).floor := Rat.le_floor_iff.2 (by rw [Rat.intCast_neg, Rat.intCast_add]; have := Rat.lt_floor (x := q); grind)
        omega
      omega
    rcases A.ends (Rat.intCast_le_intCast.2 h1) (Rat.intCast_le_intCast.2 k1) with h | h
    · exact ⟨z0, m0, h⟩
    · exact ⟨z1, m1, h⟩
end Go.Proofs.YtbncfknjgldcbaaGreat.Mx
/- Between two breakpoints, and behind the last one, the total of curves is a straight line. -/
namespace Go.Proofs.YtbncfknjgldcbaaGreat.Mx
open Go.RowKit Go.Shelf Go.Sort Num BrkLaw

/-- Between two points without a meeting in between one bucket decides. -/
theorem one {N : List Buck} (hN : N ≠ []) (hp : N.Pairwise Buck.bef) {x y : Rat} (hxy : x ≤ y) (hno : ∀ p ∈ twosL N, ¬ (x < meetQ p ∧ meetQ p < y)) : ∃ u ∈ N, ∀ s, x ≤ s → s ≤ y → minV N s = valQ u s := by
  by_cases he : x = y
  · subst he
    obtain ⟨u, hu, h⟩ := minV_at hN x
    exact ⟨u, hu, fun s h1 h2 => by rw [Rat.le_antisymm h2 h1]; exact h⟩
  obtain ⟨m, hm⟩ : ∃ m : Rat, m + m = x + y := ⟨(x + y) / 2, by grind⟩
  have hxm : x < m := by grind
  have hmy : m < y := by grind
  obtain ⟨p, hpm, hpe⟩ := minV_at hN m
  refine ⟨p, hpm, fun s hs1 hs2 => minV_eq (fun q hq => ?_) ⟨p, hpm, rfl⟩⟩
  refine Rat.not_lt.1 fun hlt => ?_
  have hle : valQ p m ≤ valQ q m := hpe ▸ minV_le hq
  have hne : p ≠ q := by rintro rfl; exact Rat.lt_irrefl hlt
  rcases twos_of hp hpm hq hne with h | h
  · have hb := twosL_mem hp _ h
    have k1 := meet_lt hb hlt
    have k2 : m ≤ meetQ (p, q) := Rat.not_lt.1 fun k => Rat.not_lt.2 hle (meet_slt hb k)
    exact hno _ h ⟨by grind, by grind⟩
  · have hb := twosL_mem hp _ h
    have k1 := meet_gt hb hlt
    have k2 : meetQ (q, p) ≤ m := Rat.not_lt.1 fun k => Rat.not_lt.2 hle (meet_sgt hb k)
    exact hno _ h ⟨by grind, by grind⟩
/-- Behind the last meeting the bucket of the least rate decides. -/
theorem last {N : List Buck} (hN : N ≠ []) (hp : N.Pairwise Buck.bef) {x : Rat} (hno : ∀ p ∈ twosL N, ¬ x < meetQ p) : ∃ u ∈ N, (∀ q ∈ N, u.r ≤ q.r) ∧ ∀ s, x ≤ s → minV N s = valQ u s := by
  obtain ⟨m, hm⟩ : ∃ m : Rat, m = x + 1 := ⟨_, rfl⟩
  have hxm : x < m := by grind
  obtain ⟨p, hpm, hpe⟩ := minV_at hN m
  have key : ∀ q ∈ N, p ≠ q → q.bef p := fun q hq hne => by
    have hle : valQ p m ≤ valQ q m := hpe ▸ minV_le hq
    rcases twos_of hp hpm hq hne with h | h
    · have hb := twosL_mem hp _ h
      have := hno _ h
      exact absurd hle (Rat.not_le.2 (meet_slt hb (by grind)))
    · exact twosL_mem hp _ h
  refine ⟨p, hpm, fun q hq => ?_, fun s hs => minV_eq (fun q hq => ?_) ⟨p, hpm, rfl⟩⟩
  · by_cases hne : p = q
    · rw [hne]; exact Rat.le_refl
    · exact Rat.le_of_lt (key q hq hne).2
  · by_cases hne : p = q
    · rw [hne]; exact Rat.le_refl
    · rcases twos_of hp hpm hq hne with h | h
      · have h1 := twosL_mem hp _ h
        have h2 := key q hq hne
        have h3 := h1.2
        have h4 := h2.2
        exact absurd (show q.r < q.r by grind) Rat.lt_irrefl
      · exact meet_ge (twosL_mem hp _ h) (Rat.le_trans (Rat.not_lt.1 (hno _ h)) hs)

/-- The sum of a number of each curve. -/
def sumf (g : List Buck → Rat) (cs : List (List Buck)) : Rat := cs.foldr (fun c v => g c + v) 0
def tot (cs : List (List Buck)) (s : Rat) : Rat := sumf (fun c => minV c s) cs
theorem sum_some {g : List Buck → Rat} {o : List Buck → Option Rat} (ho : ∀ c v, o c = some v → v = g c) : ∀ (cs : List (List Buck)) (x r : Rat), (cs.map o).foldl addO (some x) = some r → r = x + sumf g cs ∧ ∀ c ∈ cs, o c = some (g c)
  | [], x, r, h => by
    simp only [List.map_nil, List.foldl_nil, Option.some.injEq] at h
    exact ⟨by unfold sumf; rw [← h]; simp [List.foldr]; grind, fun _ h => by cases h⟩
  | c :: cs, x, r, h => by
    rw [List.map_cons, List.foldl_cons] at h
    have hnone : ∀ l : List (Option Rat), l.foldl addO none = none := fun l => by induction l with | nil => rfl | cons a l ih => rw [List.foldl_cons, addO_none]; exact ih
    cases hc : o c with
    | none => rw [hc] at h; rw [show addO (some x) none = none from rfl, hnone] at h; cases h
    | some m =>
      rw [hc, addO_some] at h
      by_cases hf : Fit (x + m)
      · rw [if_pos hf] at h
        obtain ⟨k1, k2⟩ := sum_some ho cs _ _ h
        have hm := ho c m hc
        refine ⟨?_, fun d hd => ?_⟩
        · rw [k1, hm]; show _ = x + (g c + sumf g cs); grind
        · rcases List.mem_cons.1 hd with rfl | hd
          · rw [hc, hm]
          · exact k2 d hd
      · rw [if_neg hf, hnone] at h; cases h
theorem sum_fit {g : List Buck → Rat} {o : List Buck → Option Rat} {D K : Nat} (hD : 0 < D) (hD2 : D ≤ 1073741824) : ∀ (cs : List (List Buck)) (x : Rat) (M : Nat), Gd D M x → (∀ c ∈ cs, o c = some (g c) ∧ Gd D K (g c)) → M + K * cs.length ≤ 1073741824 →
    (cs.map o).foldl addO (some x) = some (x + sumf g cs) ∧ Gd D (M + K * cs.length) (x + sumf g cs)
  | [], x, M, hx, _, _ => by
    have : x + sumf g [] = x := by unfold sumf; simp [List.foldr]; grind
    rw [this]; exact ⟨rfl, gd_mono hx (by simp)⟩
  | c :: cs, x, M, hx, hc, hM => by
    obtain ⟨h1, h2⟩ := hc c (by simp)
    simp only [List.length_cons, Nat.mul_add, Nat.mul_one] at hM
    have hg := gd_add hx h2
    rw [List.map_cons, List.foldl_cons, h1, addO_some, if_pos (gd_fit hg hD hD2 (by omega))]
    obtain ⟨k1, k2⟩ := sum_fit hD hD2 cs (x + g c) (M + K) hg (fun d hd => hc d (List.mem_cons_of_mem _ hd)) (by omega)
    have e : x + sumf g (c :: cs) = x + g c + sumf g cs := by show x + (g c + sumf g cs) = _; grind
    rw [e]
    exact ⟨k1, gd_mono k2 (by simp only [List.length_cons, Nat.mul_add, Nat.mul_one]; omega)⟩
theorem atO_some {t : Rat} (c : List Buck) (v : Rat) (h : atO t c = some v) : v = minV c t := by
  unfold atO at h
  split at h
  · exact (Option.some.inj h).symm
  · cases h
theorem totO_some {cs : List (List Buck)} {t v : Rat} (h : totO cs t = some v) : v = tot cs t := by
  have := (sum_some atO_some cs 0 v h).1
  rw [this]; unfold tot; grind
theorem rateO_some {cs : List (List Buck)} {v : Rat} (h : rateO cs = some v) : v = sumf rateL cs := by
  have := (sum_some (g := rateL) (fun c v h => (Option.some.inj h).symm) cs 0 v h).1
  rw [this]; grind

/-- Where buckets of the normal forms meet. -/
def Meets (cs : List (List Buck)) (q : Rat) : Prop := ∃ c ∈ cs, ∃ p ∈ twosL (normL c), q = meetQ p
theorem tot_aff : ∀ (cs : List (List Buck)) (_ : ∀ c ∈ cs, c ≠ []) {x y : Rat} (_ : 0 ≤ x) (_ : x ≤ y) (_ : ∀ q, Meets cs q → ¬ (x < q ∧ q < y)), Aff (tot cs) x y
  | [], _, x, y, _, _, _ => ⟨0, 0, fun s _ _ => by show (0 : Rat) = _; grind⟩
  | c :: cs, hne, x, y, h0, hxy, hno => by
    have hc := hne c (by simp)
    have hn := normL_nf c
    have hN : normL c ≠ [] := fun e => by
      obtain ⟨b, hb⟩ := List.exists_mem_of_ne_nil c hc
      obtain ⟨u, hu, _⟩ := hn.c b hb
      rw [e] at hu; cases hu
    obtain ⟨u, hu, h⟩ := one hN hn.o hxy fun p hp => hno _ ⟨c, by simp, p, hp, rfl⟩
    have A := tot_aff cs (fun d hd => hne d (List.mem_cons_of_mem _ hd)) h0 hxy fun q ⟨d, hd, p, hp, e⟩ => hno q ⟨d, List.mem_cons_of_mem _ hd, p, hp, e⟩
    have B : Aff (fun s => minV c s) x y := ⟨u.b, u.r, fun s h1 h2 => by show minV c s = _; rw [← minV_norm hc (Rat.le_trans h0 h1), h s h1 h2]; rfl⟩
    exact B.add A
theorem tot_end : ∀ (cs : List (List Buck)) (_ : ∀ c ∈ cs, c ≠ []) {x : Rat} (_ : 0 ≤ x) (_ : ∀ q, Meets cs q → ¬ x < q), ∃ a : Rat, ∀ s, x ≤ s → tot cs s = a + sumf rateL cs * s
  | [], _, x, _, _ => ⟨0, fun s _ => by show (0 : Rat) = 0 + 0 * s; grind⟩
  | c :: cs, hne, x, h0, hno => by
    have hc := hne c (by simp)
    have hn := normL_nf c
    have hN : normL c ≠ [] := fun e => by
      obtain ⟨b, hb⟩ := List.exists_mem_of_ne_nil c hc
      obtain ⟨u, hu, _⟩ := hn.c b hb
      rw [e] at hu; cases hu
    obtain ⟨u, hu, hmin, h⟩ := last hN hn.o fun p hp => hno _ ⟨c, by simp, p, hp, rfl⟩
    obtain ⟨a, ha⟩ := tot_end cs (fun d hd => hne d (List.mem_cons_of_mem _ hd)) h0 fun q ⟨d, hd, p, hp, e⟩ => hno q ⟨d, List.mem_cons_of_mem _ hd, p, hp, e⟩
    have hr : rateL c = u.r := by
      refine Rat.le_antisymm (rateL_le (hn.s u hu)) ?_
      obtain ⟨b, hb, e⟩ := rateL_at hc
      obtain ⟨v, hv, hle⟩ := hn.c b hb
      rw [e]
      exact Rat.le_trans (hmin v hv) hle.2
    refine ⟨u.b + a, fun s hs => ?_⟩
    show minV c s + tot cs s = u.b + a + (rateL c + sumf rateL cs) * s
    rw [ha s hs, ← minV_norm hc (Rat.le_trans h0 hs), h s hs, hr]
    unfold valQ
    grind

theorem fl_p (p : Pt) : flP p = p.q.floor := by unfold flP; rw [Rat.floor_def]
theorem ce_p (p : Pt) : ceP p = -(-p.q).floor := by unfold ceP; rw [Rat.floor_def, Rat.neg_num, Rat.neg_den]
theorem meets_pt {cs : List (List Buck)} (hb : brksOk cs) {q : Rat} (h : Meets cs q) : ∃ p ∈ ptsL cs, p.q = q := by
  obtain ⟨c, hc, p, hp, rfl⟩ := h
  exact ⟨meetP p, List.mem_flatMap.2 ⟨c, hc, ((brk_spec _).2 _).2 (List.mem_map.2 ⟨p, hp, rfl⟩)⟩, meetP_q (hb c hc p hp)⟩
/-- What Delay finds at the greatest point is nowhere smaller at whole points. -/
theorem delay_top {cs : List (List Buck)} (hne : ∀ c ∈ cs, c ≠ []) (hb : brksOk cs) {r : Rat} (L : Rat) (hr : 0 < r) (hrate : sumf rateL cs ≤ r) (t : Int) (ht : 0 ≤ t) :
    ∃ z ∈ ticksL (ptsL cs), tot cs t / r - t + L ≤ tot cs z / r - z + L := by
  refine top (fun s => tot cs s / r - s + L) (Meets cs) (ticksL (ptsL cs)) ((ticks_mem _ _).2 (.inl rfl)) (fun q hq => ?_) (fun q hq => ?_) (fun x y h0 hxy hno => ?_) (fun x h0 hno s hs => ?_) t ht
  · obtain ⟨p, hp, rfl⟩ := meets_pt hb hq
    exact (ticks_mem _ _).2 (.inr ⟨p, hp, .inl (fl_p p).symm⟩)
  · obtain ⟨p, hp, rfl⟩ := meets_pt hb hq
    exact (ticks_mem _ _).2 (.inr ⟨p, hp, .inr (ce_p p).symm⟩)
  · obtain ⟨a, b, h⟩ := tot_aff cs hne h0 hxy hno
    refine ⟨a / r + L, b / r - 1, fun s h1 h2 => ?_⟩
    show tot cs s / r - s + L = _
    rw [h s h1 h2, Rat.div_def, Rat.div_def, Rat.div_def]
    grind
  · obtain ⟨a, h⟩ := tot_end cs hne h0 hno
    show tot cs s / r - s + L ≤ tot cs x / r - x + L
    rw [h s hs, h x Rat.le_refl]
    have h1 : (a + sumf rateL cs * s) / r - (a + sumf rateL cs * x) / r = sumf rateL cs * (s - x) / r := by rw [Rat.div_def, Rat.div_def, Rat.div_def]; grind
    have h2 : sumf rateL cs * (s - x) / r ≤ s - x := by
      have h3 := Rat.mul_le_mul_of_nonneg_right hrate (show 0 ≤ s - x by grind)
      have h4 : 0 ≤ r⁻¹ := Rat.le_of_lt (Rat.inv_pos.2 hr)
      have h5 := Rat.mul_le_mul_of_nonneg_right h3 h4
      have h6 : r * (s - x) * r⁻¹ = s - x := by have := Rat.mul_inv_cancel r (fun e => by rw [e] at hr; exact Rat.lt_irrefl hr); grind
      rw [Rat.div_def]
      grind
    grind
def pos (x : Rat) : Rat := if x < 0 then 0 else x
/-- What Backlog finds at the greatest point is nowhere smaller at whole points. -/
theorem back_top {cs : List (List Buck)} (hne : ∀ c ∈ cs, c ≠ []) (hb : brksOk cs) {r : Rat} (L : Rat) (hL : Fit L) (hrate : sumf rateL cs ≤ r) (t : Int) (ht : 0 ≤ t) :
    ∃ z ∈ ticksL (ptsL cs ++ [(⟨L, hL⟩ : Pt)]), tot cs t - r * pos (t - L) ≤ tot cs z - r * pos (z - L) := by
  refine top (fun s => tot cs s - r * pos (s - L)) (fun q => Meets cs q ∨ q = L) (ticksL (ptsL cs ++ [(⟨L, hL⟩ : Pt)])) ((ticks_mem _ _).2 (.inl rfl)) (fun q hq => ?_) (fun q hq => ?_) (fun x y h0 hxy hno => ?_) (fun x h0 hno s hs => ?_) t ht
  · rcases hq with hq | rfl
    · obtain ⟨p, hp, rfl⟩ := meets_pt hb hq
      exact (ticks_mem _ _).2 (.inr ⟨p, List.mem_append_left _ hp, .inl (fl_p p).symm⟩)
    · exact (ticks_mem _ _).2 (.inr ⟨⟨q, hL⟩, by simp, .inl (fl_p ⟨q, hL⟩).symm⟩)
  · rcases hq with hq | rfl
    · obtain ⟨p, hp, rfl⟩ := meets_pt hb hq
      exact (ticks_mem _ _).2 (.inr ⟨p, List.mem_append_left _ hp, .inr (ce_p p).symm⟩)
    · exact (ticks_mem _ _).2 (.inr ⟨⟨q, hL⟩, by simp, .inr (ce_p ⟨q, hL⟩).symm⟩)
  · obtain ⟨a, b, h⟩ := tot_aff cs hne h0 hxy fun q hq => hno q (.inl hq)
    have hl := hno L (.inr rfl)
    by_cases hxl : x < L
    · have hyl : y ≤ L := Rat.not_lt.1 fun k => hl ⟨hxl, k⟩
      refine ⟨a, b, fun s h1 h2 => ?_⟩
      show tot cs s - r * pos (s - L) = _
      rw [h s h1 h2]
      have : pos (s - L) = 0 := by unfold pos; split <;> grind
      rw [this]; grind
    · refine ⟨a + r * L, b - r, fun s h1 h2 => ?_⟩
      show tot cs s - r * pos (s - L) = _
      rw [h s h1 h2]
      have : pos (s - L) = s - L := by unfold pos; split <;> grind
      rw [this]; grind
  · obtain ⟨a, h⟩ := tot_end cs hne h0 fun q hq => hno q (.inl hq)
    have hl : L ≤ x := Rat.not_lt.1 (hno L (.inr rfl))
    show tot cs s - r * pos (s - L) ≤ tot cs x - r * pos (x - L)
    rw [h s hs, h x Rat.le_refl]
    have e1 : pos (s - L) = s - L := by unfold pos; split <;> grind
    have e2 : pos (x - L) = x - L := by unfold pos; split <;> grind
    rw [e1, e2]
    have h3 := Rat.mul_le_mul_of_nonneg_right hrate (show 0 ≤ s - x by grind)
    grind

/-- The greatest value, if there is one. -/
theorem great_some {f : Int → Option Rat} {zs : List Int} {m : Rat} (h : greatZ f zs = some m) : (∀ z ∈ zs, ∃ v, f z = some v ∧ v ≤ m) ∧ 0 ≤ m ∧ (m = 0 ∨ ∃ z ∈ zs, f z = some m) := by
  unfold greatZ at h
  split at h
  · rename_i hall
    have h := Option.some.inj h
    have key : ∀ (l : List Int) (x : Rat), (∀ z ∈ l, (f z).isSome = true) → 0 ≤ x → ∀ y, l.foldl (fun m z => if m < (f z).getD 0 then (f z).getD 0 else m) x = y → (x ≤ y ∧ ∀ z ∈ l, ∃ v, f z = some v ∧ v ≤ y) ∧ (y = x ∨ ∃ z ∈ l, f z = some y) := by
      intro l
      induction l with
      | nil => intro x _ _ y e; exact ⟨⟨e ▸ Rat.le_refl, fun _ h => by cases h⟩, .inl e.symm⟩
      | cons a l ih =>
        intro x ha hx y e
        rw [List.foldl_cons] at e
        obtain ⟨v, hv⟩ := Option.isSome_iff_exists.1 (ha a (by simp))
        have hl : ∀ z ∈ l, (f z).isSome = true := fun z hz => ha z (List.mem_cons_of_mem _ hz)
        rw [hv, Option.getD_some] at e
        by_cases hlt : x < v
        · rw [if_pos hlt] at e
          obtain ⟨⟨k1, k2⟩, k3⟩ := ih v hl (by grind) y e
          refine ⟨⟨by grind, fun z hz => ?_⟩, .inr ?_⟩
          · rcases List.mem_cons.1 hz with rfl | hz
            · exact ⟨v, hv, k1⟩
            · exact k2 z hz
          · rcases k3 with k3 | ⟨z, hz, k3⟩
            · exact ⟨a, by simp, by rw [hv, k3]⟩
            · exact ⟨z, List.mem_cons_of_mem _ hz, k3⟩
        · rw [if_neg hlt] at e
          obtain ⟨⟨k1, k2⟩, k3⟩ := ih x hl hx y e
          refine ⟨⟨k1, fun z hz => ?_⟩, ?_⟩
          · rcases List.mem_cons.1 hz with rfl | hz
            · exact ⟨v, hv, by grind⟩
            · exact k2 z hz
          · rcases k3 with k3 | ⟨z, hz, k3⟩
            · exact .inl k3
            · exact .inr ⟨z, List.mem_cons_of_mem _ hz, k3⟩
    obtain ⟨⟨k1, k2⟩, k3⟩ := key zs 0 hall Rat.le_refl m h
    exact ⟨k2, k1, k3⟩
  · cases h
theorem great_is {f : Int → Option Rat} {zs : List Int} (h : ∀ z ∈ zs, ∃ v, f z = some v) : ∃ m, greatZ f zs = some m := by
  unfold greatZ
  rw [if_pos fun z hz => by obtain ⟨v, hv⟩ := h z hz; rw [hv]; rfl]
  exact ⟨_, rfl⟩
theorem opO_some {f : Rat → Rat} {o : Option Rat} {v : Rat} (h : opO f o = some v) : ∃ x, o = some x ∧ v = f x := by
  cases o with
  | none => cases h
  | some x =>
    unfold opO at h
    dsimp only at h
    split at h
    · exact ⟨x, rfl, (Option.some.inj h).symm⟩
    · cases h
theorem delayO_some {cs : List (List Buck)} {r L t v : Rat} (h : delayO cs r L t = some v) : v = tot cs t / r - t + L := by
  obtain ⟨x, h1, rfl⟩ := opO_some h
  obtain ⟨y, h2, rfl⟩ := opO_some h1
  obtain ⟨z, h3, rfl⟩ := opO_some h2
  rw [totO_some h3]
theorem backO_some {cs : List (List Buck)} {r L t v : Rat} (h : backO cs r L t = some v) : v = tot cs t - r * pos (t - L) := by
  unfold backO at h
  cases ht : totO cs t with
  | none => rw [ht] at h; cases h
  | some a =>
    have := totO_some ht
    rw [ht] at h
    dsimp only at h
    split at h
    · rename_i hle
      have e : pos (t - L) = 0 := by unfold pos; split <;> grind
      rw [← Option.some.inj h, this, e]; grind
    · rename_i hle
      have e : pos (t - L) = t - L := by unfold pos; split <;> grind
      rw [e]
      obtain ⟨x, h1, rfl⟩ := opO_some h
      obtain ⟨y, h2, rfl⟩ := opO_some h1
      obtain ⟨z, h3, rfl⟩ := opO_some h2
      rw [← Option.some.inj h3, this]
end Go.Proofs.YtbncfknjgldcbaaGreat.Mx
/- Small curves, served at a small rate: no number of Delay or Backlog is too large, and what they answer is the greatest value at whole points. -/
namespace Go.Proofs.YtbncfknjgldcbaaGreat.Mx
open Go.RowKit Go.Shelf Go.Sort Num BrkLaw

/-- Small curves. -/
def SmL (cs : List (List Buck)) : Prop := ∀ c ∈ cs, c ≠ [] ∧ ∀ x ∈ c, Sm x
theorem sml_brks {cs : List (List Buck)} (h : SmL cs) : brksOk cs := fun c hc => sm_okm (normL_nf c).o fun x hx => (h c hc).2 x ((normL_nf c).s x hx)
theorem gd_le {D K : Nat} {r : Rat} (h : Gd D K r) (hD : 0 < D) : r * D ≤ K ∧ -(K : Rat) ≤ r * D := by
  obtain ⟨k, hk, rfl⟩ := h
  have hd : ((D : Int) : Rat) ≠ 0 := fun e => by have := Rat.intCast_inj.1 (e.trans (Rat.intCast_zero).symm); omega
  have e : Rat.divInt k D * D = k := by rw [Rat.divInt_eq_div]; exact Rat.div_mul_cancel hd
  rw [e]
  have h1 : (k : Rat) ≤ ((K : Int) : Rat) := Rat.intCast_le_intCast.2 hk.2
  have h2 : ((-(K : Int) : Int) : Rat) ≤ (k : Rat) := Rat.intCast_le_intCast.2 hk.1
  rw [Rat.intCast_neg] at h2
  exact ⟨h1, h2⟩
theorem dv_pos {k d : Int} (hd : 0 < d) : 0 < Rat.divInt k d ↔ 0 < k := by
  have hd0 : (0 : Rat) < (d : Rat) := Rat.intCast_lt_intCast.2 hd
  have e : Rat.divInt k d * d = k := by rw [Rat.divInt_eq_div]; exact Rat.div_mul_cancel (fun e => by rw [e] at hd0; exact Rat.lt_irrefl hd0)
  constructor
  · intro h
    have := Rat.mul_pos h hd0
    rw [e] at this
    exact Rat.intCast_lt_intCast.1 this
  · intro h
    rw [Rat.divInt_eq_div, Rat.div_def]
    exact Rat.mul_pos (Rat.intCast_lt_intCast.2 h) (Rat.inv_pos.2 hd0)
/-- Two small buckets meet before 800. -/
theorem sm_meet {u v : Buck} (hu : Sm u) (hv : Sm v) (h : u.bef v) : 0 ≤ meetQ (u, v) ∧ meetQ (u, v) ≤ 800 := by
  have h0 := meet_nn h
  refine ⟨h0, ?_⟩
  have h1 := meet_mul h
  have h2 := (gd_le hu.b (by decide)).2
  have h3 := (gd_le hv.b (by decide)).1
  obtain ⟨k, _, hk⟩ := gd_sub hu.r hv.r
  have h4 : 0 < u.r - v.r := sub_pos' h.2
  rw [hk] at h4
  have hk1 : 1 ≤ k := by
    have : 0 < k := (dv_pos (by decide)).1 h4
    omega
  have h5 : (1 : Rat) ≤ (u.r - v.r) * 8 := by
    rw [hk]
    have e : Rat.divInt k ((8 : Nat) : Int) * 8 = k := by rw [Rat.divInt_eq_div]; exact Rat.div_mul_cancel (by decide)
    rw [e]
    exact Rat.intCast_le_intCast.2 hk1
  have hb0 : 0 ≤ u.b := u.pb
  have h6 := Rat.mul_le_mul_of_nonneg_left h5 h0
  have h7 : v.b ≤ 100 := by have := h3; grind
  grind
theorem pts_800 {cs : List (List Buck)} (h : SmL cs) {p : Pt} (hp : p ∈ ptsL cs) : 0 ≤ p.q ∧ p.q ≤ 800 := by
  obtain ⟨c, hc, hpc⟩ := List.mem_flatMap.1 hp
  obtain ⟨pr, hpr, rfl⟩ := List.mem_map.1 (((brk_spec _).2 p).1 hpc)
  rw [meetP_q (sml_brks h c hc pr hpr)]
  obtain ⟨h1, h2⟩ := twosL_sub pr hpr
  exact sm_meet ((h c hc).2 _ ((normL_nf c).s _ h1)) ((h c hc).2 _ ((normL_nf c).s _ h2)) (twosL_mem (normL_nf c).o pr hpr)
theorem tick_800 {p : Pt} {M : Int} (h0 : 0 ≤ p.q) (h1 : p.q ≤ M) : (0 ≤ flP p ∧ flP p ≤ M) ∧ (0 ≤ ceP p ∧ ceP p ≤ M) := by
  have ha := tick_bd h0
  rw [fl_p, ce_p] at ha ⊢
  have h2 : ((p.q.floor : Int) : Rat) ≤ M := Rat.le_trans (Rat.floor_le _) h1
  have h3 : -M ≤ (-p.q).floor := Rat.le_floor_iff.2 (by rw [Rat.intCast_neg]; grind)
  exact ⟨⟨ha.1.1, Rat.intCast_le_intCast.1 h2⟩, ha.2.1, by omega⟩
theorem ticks_800 {cs : List (List Buck)} (h : SmL cs) {z : Int} (hz : z ∈ ticksL (ptsL cs)) : 0 ≤ z ∧ z ≤ 800 := by
  rcases (ticks_mem _ _).1 hz with rfl | ⟨p, hp, rfl | rfl⟩
  · exact ⟨Int.le_refl _, by decide⟩
  · exact (tick_800 (M := 800) (pts_800 h hp).1 (pts_800 h hp).2).1
  · exact (tick_800 (M := 800) (pts_800 h hp).1 (pts_800 h hp).2).2
theorem ticks_800' {cs : List (List Buck)} (h : SmL cs) {L : Int} (hf : Fit (L : Rat)) (hL0 : 0 ≤ L) {M : Int} (hM : 800 ≤ M) (hL : L ≤ M) {z : Int} (hz : z ∈ ticksL (ptsL cs ++ [(⟨(L : Rat), hf⟩ : Pt)])) : 0 ≤ z ∧ z ≤ M := by
  have hM' : ((800 : Int) : Rat) ≤ (M : Rat) := Rat.intCast_le_intCast.2 hM
  have key : ∀ p ∈ ptsL cs ++ [(⟨(L : Rat), hf⟩ : Pt)], 0 ≤ p.q ∧ p.q ≤ M := fun p hp => by
    rcases List.mem_append.1 hp with hp | hp
    · exact ⟨(pts_800 h hp).1, Rat.le_trans (pts_800 h hp).2 hM'⟩
    · rw [List.mem_singleton.1 hp]
      exact ⟨Rat.intCast_le_intCast.2 hL0, Rat.intCast_le_intCast.2 hL⟩
  rcases (ticks_mem _ _).1 hz with rfl | ⟨p, hp, rfl | rfl⟩
  · exact ⟨Int.le_refl _, by omega⟩
  · exact (tick_800 (key p hp).1 (key p hp).2).1
  · exact (tick_800 (key p hp).1 (key p hp).2).2
theorem gd_int {Z : Nat} {z : Int} (h : 0 ≤ z ∧ z ≤ Z) : Gd 1 Z (z : Rat) := ⟨z, by omega, by rw [Rat.divInt_eq_div]; grind⟩
theorem gd_up {K : Nat} {r : Rat} (E : Nat) (hE : 0 < E) (h : Gd 1 K r) : Gd E (K * E) r := by have := gd_scale E hE h; rwa [Nat.one_mul] at this
/-- The value of a small curve at a whole point. -/
theorem sm_at {c : List Buck} (hc : c ≠ []) (h : ∀ x ∈ c, Sm x) {Z : Nat} (hZ : Z ≤ 10000) {z : Int} (hz : 0 ≤ z ∧ z ≤ Z) : atO z c = some (minV c z) ∧ Gd 8 (800 + 40 * Z) (minV c z) := by
  have hg : ∀ x ∈ c, Gd 8 (40 * Z) (x.r * z) ∧ Gd 8 (800 + 40 * Z) (valQ x z) := fun x hx => by
    have h1 : Gd 8 (40 * Z) (x.r * z) := gd_mul (D := 8) (E := 1) (h x hx).r (gd_int hz)
    exact ⟨h1, gd_add (K := 800) (gd_up (K := 100) 8 (by decide) (h x hx).b) h1⟩
  refine ⟨if_pos fun x hx => ⟨gd_fit (hg x hx).1 (by decide) (by decide) (by omega), gd_fit (hg x hx).2 (by decide) (by decide) (by omega)⟩, ?_⟩
  obtain ⟨x, hx, e⟩ := minV_at hc z
  rw [e]; exact (hg x hx).2
theorem sm_tot {cs : List (List Buck)} (h : SmL cs) (hl : cs.length ≤ 2) {Z : Nat} (hZ : Z ≤ 10000) {z : Int} (hz : 0 ≤ z ∧ z ≤ Z) : totO cs z = some (tot cs z) ∧ Gd 8 (1600 + 80 * Z) (tot cs z) := by
  have := sum_fit (g := fun c => minV c z) (o := atO z) (D := 8) (K := 800 + 40 * Z) (by decide) (by decide) cs 0 0 ⟨0, by omega, by decide⟩ (fun c hc => sm_at (h c hc).1 (h c hc).2 hZ hz) (by
    have : (800 + 40 * Z) * cs.length ≤ (800 + 40 * Z) * 2 := Nat.mul_le_mul (Nat.le_refl _) hl
    omega)
  rw [Rat.zero_add] at this
  refine ⟨this.1, gd_mono this.2 ?_⟩
  have : (800 + 40 * Z) * cs.length ≤ (800 + 40 * Z) * 2 := Nat.mul_le_mul (Nat.le_refl _) hl
  omega
theorem sm_rate {c : List Buck} (hc : c ≠ []) (h : ∀ x ∈ c, Sm x) : Gd 8 40 (rateL c) := by
  obtain ⟨x, hx, e⟩ := rateL_at hc
  rw [e]; exact (h x hx).r
theorem sm_rates {cs : List (List Buck)} (h : SmL cs) (hl : cs.length ≤ 2) : rateO cs = some (sumf rateL cs) := by
  have := sum_fit (g := rateL) (o := fun c => some (rateL c)) (D := 8) (K := 40) (by decide) (by decide) cs 0 0 ⟨0, by omega, by decide⟩ (fun c hc => ⟨rfl, sm_rate (h c hc).1 (h c hc).2⟩) (by omega)
  rw [Rat.zero_add] at this
  exact this.1
theorem sm_prep {cs : List (List Buck)} (h : SmL cs) (hl : cs.length ≤ 2) (r : Rat) : prepE cs r = if r < sumf rateL cs then 6 else 0 := by
  unfold prepE
  rw [if_pos (sml_brks h), sm_rates h hl]

/-- The greatest value of the delay. -/
structure Dl (cs : List (List Buck)) (r L m : Rat) : Prop where
  up : ∀ t : Int, 0 ≤ t → tot cs t / r - t + L ≤ m
  nn : 0 ≤ m
  at' : m = 0 ∨ ∃ z : Int, (0 ≤ z ∧ z ≤ 800) ∧ m = tot cs z / r - z + L
/-- The greatest value of the backlog. -/
structure Bl (cs : List (List Buck)) (r L m : Rat) : Prop where
  up : ∀ t : Int, 0 ≤ t → tot cs t - r * pos (t - L) ≤ m
  nn : 0 ≤ m
  at' : m = 0 ∨ ∃ z : Int, 0 ≤ z ∧ m = tot cs z - r * pos (z - L)
theorem delay_sm {cs : List (List Buck)} (h : SmL cs) (hl : cs.length ≤ 2) {r : Rat} (hr : 0 < r) {D K : Nat} (hD : 0 < D) (hD2 : D ≤ 2000) (hK : K ≤ 100000000) (hg : ∀ x, Gd 8 65600 x → Gd D K (x / r)) {L : Int} (hL : 0 ≤ L ∧ L ≤ 510) :
    if r < sumf rateL cs then delayV cs r L = (0, 0, 6) else ∃ m, delayV cs r L = (m.num, (m.den : Int), 0) ∧ Dl cs r L m ∧ Gd D (K + 1310 * D) m := by
  unfold delayV
  rw [sm_prep h hl]
  by_cases hlt : r < sumf rateL cs
  · rw [if_pos hlt, if_pos hlt, if_neg (by decide)]
  · rw [if_neg hlt, if_neg hlt, if_pos rfl]
    have val : ∀ z ∈ ticksL (ptsL cs), delayO cs r L z = some (tot cs z / r - z + L) ∧ Gd D (K + 1310 * D) (tot cs z / r - z + L) := fun z hz => by
      have hz8 := ticks_800 h hz
      obtain ⟨k1, k2⟩ := sm_tot h hl (Z := 800) (by decide) hz8
      have g1 := hg _ k2
      have g2 := gd_sub g1 (gd_up D hD (gd_int (Z := 800) hz8))
      have g3 := gd_add g2 (gd_up D hD (gd_int (Z := 510) hL))
      refine ⟨?_, gd_mono g3 (by omega)⟩
      unfold delayO
      rw [k1, opO_yes (f := fun x => x / r) (gd_fit g1 hD (by omega) (by omega)), opO_yes (f := fun x => x - (z : Rat)) (gd_fit g2 hD (by omega) (by omega)), opO_yes (f := fun x => x + (L : Rat)) (gd_fit g3 hD (by omega) (by omega))]
    obtain ⟨m, hm⟩ := great_is (f := fun z : Int => delayO cs r L z) fun z hz => ⟨_, (val z hz).1⟩
    obtain ⟨k1, k2, k3⟩ := great_some hm
    refine ⟨m, by rw [hm]; rfl, ⟨fun t ht => ?_, k2, ?_⟩, ?_⟩
    · obtain ⟨z, hz, hle⟩ := delay_top (fun c hc => (h c hc).1) (sml_brks h) (L : Rat) hr (Rat.not_lt.1 hlt) t ht
      obtain ⟨v, hv, hvm⟩ := k1 z hz
      rw [delayO_some hv] at hvm
      exact Rat.le_trans hle hvm
    · rcases k3 with k3 | ⟨z, hz, k3⟩
      · exact .inl k3
      · exact .inr ⟨z, ticks_800 h hz, delayO_some k3⟩
    · rcases k3 with k3 | ⟨z, hz, k3⟩
      · rw [k3]; exact ⟨0, by omega, by simp⟩
      · rw [delayO_some k3]; exact (val z hz).2
theorem back_sm {cs : List (List Buck)} (h : SmL cs) (hl : cs.length ≤ 2) {r : Rat} {E : Nat} (hE : 0 < E) (hE2 : E ≤ 15) (hg : Gd E 160 r) {L : Int} (hf : Fit (L : Rat)) (hL : 0 ≤ L ∧ L ≤ 510) :
    if r < sumf rateL cs then backV cs r L hf = (0, 0, 6) else ∃ m, backV cs r L hf = (m.num, (m.den : Int), 0) ∧ Bl cs r L m ∧ Gd (8 * E) 10000000 m := by
  unfold backV
  rw [sm_prep h hl]
  by_cases hlt : r < sumf rateL cs
  · rw [if_pos hlt, if_pos hlt, if_neg (by decide)]
  · rw [if_neg hlt, if_neg hlt, if_pos rfl]
    have val : ∀ z ∈ ticksL (ptsL cs ++ [(⟨(L : Rat), hf⟩ : Pt)]), backO cs r L z = some (tot cs z - r * pos (z - L)) ∧ Gd (8 * E) 10000000 (tot cs z - r * pos (z - L)) := fun z hz => by
      have hz8 := ticks_800' h hf hL.1 (M := 800) (by decide) (by omega) hz
      obtain ⟨k1, k2⟩ := sm_tot h hl (Z := 800) (by decide) hz8
      have k3 := gd_mono (gd_scale E hE k2) (L := 984000) (by omega)
      unfold backO
      rw [k1]
      by_cases hle : (z : Rat) ≤ (L : Rat)
      · have e : pos (z - L) = 0 := by unfold pos; split <;> grind
        simp only [if_pos hle]
        rw [e]
        have e2 : tot cs z - r * 0 = tot cs z := by grind
        rw [e2]
        exact ⟨rfl, gd_mono k3 (by decide)⟩
      · have hlt' : L < z := Rat.intCast_lt_intCast.1 (Rat.not_le.1 hle)
        have e : pos (z - L) = ((z - L : Int) : Rat) := by unfold pos; rw [Rat.intCast_sub]; split <;> grind
        simp only [if_neg hle]
        rw [e]
        have g1 : Gd 1 800 ((z - L : Int) : Rat) := gd_int (by omega)
        have g2 := gd_mul hg g1
        rw [Nat.mul_one] at g2
        have g3 := gd_scale 8 (by decide) g2
        rw [Nat.mul_comm E 8] at g3
        have g4 := gd_sub k3 g3
        have e3 : (z : Rat) - L = ((z - L : Int) : Rat) := by rw [Rat.intCast_sub]
        have s1 : opO (fun x => (z : Rat) - x) (some (L : Rat)) = some ((z - L : Int) : Rat) := by
          rw [opO_yes (by rw [e3]; exact gd_fit g1 (by decide) (by decide) (by decide)), e3]
        rw [s1, opO_yes (f := fun x => r * x) (gd_fit g2 hE (by omega) (by decide)), opO_yes (f := fun x => tot cs z - x) (gd_fit g4 (by omega) (by omega) (by decide))]
        exact ⟨rfl, gd_mono g4 (by decide)⟩
    obtain ⟨m, hm⟩ := great_is (f := fun z : Int => backO cs r L z) fun z hz => ⟨_, (val z hz).1⟩
    obtain ⟨k1, k2, k3⟩ := great_some hm
    refine ⟨m, by rw [hm]; rfl, ⟨fun t ht => ?_, k2, ?_⟩, ?_⟩
    · obtain ⟨z, hz, hle⟩ := back_top (fun c hc => (h c hc).1) (sml_brks h) (L : Rat) hf (Rat.not_lt.1 hlt) t ht
      obtain ⟨v, hv, hvm⟩ := k1 z hz
      rw [backO_some hv] at hvm
      exact Rat.le_trans hle hvm
    · rcases k3 with k3 | ⟨z, hz, k3⟩
      · exact .inl k3
      · exact .inr ⟨z, (ticks_800' h hf hL.1 (M := 800) (by decide) (by omega) hz).1, backO_some k3⟩
    · rcases k3 with k3 | ⟨z, hz, k3⟩
      · rw [k3]; exact ⟨0, by omega, by simp⟩
      · rw [backO_some k3]; exact (val z hz).2
/-- The servers of the laws: the rate n/e. -/
theorem gd_rate {n e : Int} (hn : 1 ≤ n ∧ n ≤ 160) (he : 8 ≤ e ∧ e ≤ 15) : Gd e.toNat 160 (Rat.divInt n e) := ⟨n, by omega, by rw [show ((e.toNat : Nat) : Int) = e by omega]⟩
theorem div_rate {k n e : Int} (hn : 1 ≤ n) (he : 1 ≤ e) : Rat.divInt k 8 / Rat.divInt n e = Rat.divInt (k * e) (8 * n) := by
  have hn' : (n : Rat) ≠ 0 := fun h => by have := Rat.intCast_inj.1 (h.trans Rat.intCast_zero.symm); omega
  have he' : (e : Rat) ≠ 0 := fun h => by have := Rat.intCast_inj.1 (h.trans Rat.intCast_zero.symm); omega
  rw [Rat.divInt_eq_div, Rat.divInt_eq_div, Rat.divInt_eq_div, Rat.intCast_mul, Rat.intCast_mul]
  have h8 : ((8 : Int) : Rat) = 8 := rfl
  rw [h8]
  grind
theorem gd_div8 {n : Int} (hn : 1 ≤ n ∧ n ≤ 160) {x : Rat} (hx : Gd 8 65600 x) : Gd n.toNat 65600 (x / Rat.divInt n 8) := by
  obtain ⟨k, hk, rfl⟩ := hx
  refine ⟨k, hk, ?_⟩
  rw [show (((8 : Nat) : Int)) = 8 from rfl, div_rate hn.1 (by decide), show ((n.toNat : Nat) : Int) = n by omega, Int.mul_comm k 8]
  exact Rat.divInt_mul_left (by decide)
theorem gd_dive {n e : Int} (hn : 1 ≤ n ∧ n ≤ 160) (he : 8 ≤ e ∧ e ≤ 15) {x : Rat} (hx : Gd 8 65600 x) : Gd (8 * n.toNat) 984000 (x / Rat.divInt n e) := by
  obtain ⟨k, hk, rfl⟩ := hx
  refine ⟨k * e, ?_, ?_⟩
  · have h := Nat.mul_le_mul (show k.natAbs ≤ 65600 by omega) (show e.natAbs ≤ 15 by omega)
    rw [← Int.natAbs_mul] at h
    omega
  · rw [show (((8 : Nat) : Int)) = 8 from rfl, div_rate hn.1 (by omega), Int.natCast_mul, show ((n.toNat : Nat) : Int) = n by omega]
    rfl
end Go.Proofs.YtbncfknjgldcbaaGreat.Mx
/- The bound of two servers in a row, for a single bucket. -/
namespace Go.Proofs.YtbncfknjgldcbaaGreat.Mx
open Go.RowKit Go.Shelf Go.Sort Num BrkLaw

theorem tot_one (x : Buck) (s : Rat) : tot [[x]] s = x.b + x.r * s := by
  show minV [x] s + 0 = _
  show valQ x s + 0 = _
  unfold valQ; grind
theorem div_le {a r : Rat} (hr : 0 < r) {b : Rat} (h : a ≤ b * r) : a / r ≤ b := by
  have h4 : 0 ≤ r⁻¹ := Rat.le_of_lt (Rat.inv_pos.2 hr)
  have h5 := Rat.mul_le_mul_of_nonneg_right h h4
  have := Rat.mul_inv_cancel r (fun e => by rw [e] at hr; exact Rat.lt_irrefl hr)
  rw [Rat.div_def]
  rwa [Rat.mul_assoc, this, Rat.mul_one] at h5
theorem div_mono {a b r : Rat} (hr : 0 < r) (h : a ≤ b) : a / r ≤ b / r := by
  have h4 : 0 ≤ r⁻¹ := Rat.le_of_lt (Rat.inv_pos.2 hr)
  have h5 := Rat.mul_le_mul_of_nonneg_right h h4
  rw [Rat.div_def, Rat.div_def]
  exact h5
theorem div_nn {a r : Rat} (hr : 0 < r) (h : 0 ≤ a) : 0 ≤ a / r := by
  have h4 : 0 ≤ r⁻¹ := Rat.le_of_lt (Rat.inv_pos.2 hr)
  rw [Rat.div_def]
  exact Rat.mul_nonneg h h4
theorem chain_le {x : Buck} {p q : Rat} (hp : 0 < p) (hq : 0 < q) (hr : x.r ≤ minq p q) {L1 L2 m f s : Rat} (h1 : 0 ≤ L1) (h2 : 0 ≤ L2) (hm : Dl [[x]] (minq p q) (L1 + L2) m) (hf : Dl [[x]] p L1 f) (hs : (x.b + x.r * f) / q + L2 ≤ s) : m ≤ f + s := by
  have b0 : 0 ≤ x.b := x.pb
  have r0 : 0 ≤ x.r := x.pr
  have fu := hf.up 0 (by decide)
  rw [tot_one, show ((0 : Int) : Rat) = 0 from rfl] at fu
  have f0 := hf.nn
  have e0 : (x.b + x.r * 0) = x.b := by grind
  rw [e0] at fu
  have hmin : 0 < minq p q := by unfold minq; split <;> assumption
  have hbp := div_nn hp b0
  have hbq := div_nn hq b0
  have hle : x.b / q ≤ (x.b + x.r * f) / q := div_mono hq (by have := Rat.mul_nonneg r0 f0; grind)
  have hmax : x.b / minq p q ≤ x.b / p + x.b / q := by unfold minq; split <;> grind
  have hmm : m ≤ x.b / minq p q + (L1 + L2) := by
    rcases hm.at' with h | ⟨z, hz, h⟩
    · have := div_nn hmin b0
      grind
    · rw [tot_one] at h
      have hz0 : (0 : Rat) ≤ z := Rat.intCast_le_intCast.2 hz.1
      have : (x.b + x.r * z) / minq p q ≤ x.b / minq p q + z := by
        refine div_le hmin ?_
        have k1 := Rat.mul_le_mul_of_nonneg_right hr hz0
        have k2 : x.b / minq p q * minq p q = x.b := Rat.div_mul_cancel (fun e => by rw [e] at hmin; exact Rat.lt_irrefl hmin)
        grind
      grind
  grind
end Go.Proofs.YtbncfknjgldcbaaGreat.Mx
