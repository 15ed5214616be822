/- Merged texts: CSrvd, CAbM, CMoM. -/
import Derived.Test.YtbncfknjgldcbaaGreatM24
import Derived.Test.YtbncfknjgldcbaaGreatM18
import Derived.Test.YtbncfknjgldcbaaGreatM9
import Derived.Test.YtbncfknjgldcbaaGreatM25
/- What a server has served, in CalculusAbove. -/
namespace Go.Proofs.YtbncfknjgldcbaaGreat
open Go.RowKit Go.Joins Go.Shelf Go.Sort Num Mx

theorem num_lt {x : Rat} : x.num < 0 ↔ x < 0 := by
  have h := Rat.num_nonneg (q := x)
  constructor
  · intro k; exact Rat.not_le.1 fun k2 => by have := h.2 k2; omega
  · intro k; exact Int.not_le.1 fun k2 => Rat.not_le.2 k (h.1 k2)
end Go.Proofs.YtbncfknjgldcbaaGreat
/- CalculusAbove's numbers. -/
namespace Go.Proofs.YtbncfknjgldcbaaGreat.Mx
open Go.RowKit Go.Joins Go.Shelf Go.Sort Num BrkLaw

theorem tot_two (a b : List Buck) (s : Rat) : tot [a, b] s = minV a s + minV b s := by
  show minV a s + (minV b s + 0) = _
  grind
theorem pos_ge (x : Rat) : x ≤ pos x := by unfold pos; split <;> grind
theorem above_le {a b : List Buck} {p L m mb : Rat} (hp : 0 < p) (hD : Dl [a, b] p L m) (hB : Bl [a, b] p L mb) (T : Int) (hT : 0 ≤ T) : minV a T + minV b T ≤ p * pos (T + m - L) ∧ minV a T + minV b T ≤ p * pos (T - L) + mb := by
  have h1 := hD.up T hT
  have h2 := hB.up T hT
  rw [tot_two] at h1 h2
  generalize minV a T + minV b T = v at *
  refine ⟨?_, by grind⟩
  have h3 := Rat.mul_le_mul_of_nonneg_left (pos_ge (T + m - L)) (Rat.le_of_lt hp)
  have h4 := Rat.mul_le_mul_of_nonneg_left h1 (Rat.le_of_lt hp)
  have h5 : v / p * p = v := Rat.div_mul_cancel (fun e => by rw [e] at hp; exact Rat.lt_irrefl hp)
  grind
theorem pos_gd {D K : Nat} {x : Rat} (h : Gd D K x) : Gd D K (pos x) := by
  unfold pos
  split
  · exact ⟨0, by omega, by simp⟩
  · exact h
theorem cmp_gt {r s : Rat} : 0 < cmpQ r s ↔ s < r := by
  have h := cmpQ_le (r := r) (s := s)
  constructor
  · intro k; exact Rat.not_le.1 fun k2 => by have := h.2 k2; omega
  · intro k; exact Int.not_le.1 fun k2 => Rat.not_le.2 k (h.1 k2)
end Go.Proofs.YtbncfknjgldcbaaGreat.Mx
namespace Go.Proofs.YtbncfknjgldcbaaGreat.AbLaw
open Go.RowKit Go.Joins Go.Shelf Go.Sort Num Mx
theorem isL_two {A B : Option Addr} {ca cb : Nat} {c d : List Buck} {W : World} {g : Nat} (hg : W.heap.size = g) (hA : isC A ca c W) (hB : isC B cb d W) (hc : 1 ≤ c.length ∧ c.length ≤ 32) (hd : 1 ≤ d.length ∧ d.length ≤ 32) (t : TypeId) (n m : Nat) (hn : c.length = n) (hm : d.length = m) :
    isL (some ⟨g, 0, none⟩) [c, d] (W.alloc (.cells #[.slice A n ca, .slice B m cb] t)) := by
  subst hg
  exact isL.two hA hB hc hd t n m hn hm
theorem divInt_one (n : Int) : Rat.divInt n 1 = (n : Rat) := by rw [Rat.divInt_eq_div]; grind
theorem make_one (n : Int) (h1 : -1073741824 ≤ n ∧ n ≤ 1073741824) (W : World) :
    Calls Tryz.prog 40 #[.int .i64 n, .int .i64 1] W fun e w' => e = .returned (.tuple #[.agg #[.int .i64 n, .int .i64 1], .int .i64 0]) ∧ Below W.heap.size W w' := by
  have h := make_w n 1 h1 (by decide) W
  rw [divInt_one] at h
  exact h
end Go.Proofs.YtbncfknjgldcbaaGreat.AbLaw
/- CalculusMore's numbers: more flows, a higher latency, a smaller rate never give a smaller bound. -/
namespace Go.Proofs.YtbncfknjgldcbaaGreat.Mx
open Go.RowKit Go.Joins Go.Shelf Go.Sort Num BrkLaw

/-- What CalculusMore asks of two answers. -/
def Good (x y : Int × Int × Int) : Prop := (x.2.2 = 6 ∧ y.2.2 = 6) ∨ (x.2.2 = 0 ∧ y.2.2 = 6) ∨ ∃ m k : Rat, (Fit m ∧ Fit k ∧ m ≤ k) ∧ x = (m.num, (m.den : Int), 0) ∧ y = (k.num, (k.den : Int), 0)
theorem pos_mono {x y : Rat} (h : x ≤ y) : pos x ≤ pos y := by unfold pos; split <;> split <;> grind
theorem pos_nn (x : Rat) : 0 ≤ pos x := by unfold pos; split <;> grind
theorem div_anti {v r s : Rat} (hv : 0 ≤ v) (hs : 0 < s) (h : s ≤ r) : v / r ≤ v / s := by
  have hr : 0 < r := by grind
  refine div_le hr ?_
  have h1 : v / s * s = v := Rat.div_mul_cancel (fun e => by rw [e] at hs; exact Rat.lt_irrefl hs)
  have h2 := Rat.mul_le_mul_of_nonneg_left h (div_nn hs hv)
  grind
theorem tot_nn {cs : List (List Buck)} (h : ∀ c ∈ cs, c ≠ []) {t : Rat} (ht : 0 ≤ t) : 0 ≤ tot cs t := by
  induction cs with
  | nil => exact Rat.le_refl
  | cons c cs ih =>
    have h1 := minV_nonneg (h c (by simp)) ht
    have h2 := ih fun d hd => h d (List.mem_cons_of_mem _ hd)
    show 0 ≤ minV c t + tot cs t
    grind
section
variable {cs cs' : List (List Buck)} {r r' L L' : Rat} (hne : ∀ c ∈ cs, c ≠ []) (ht : ∀ z : Int, 0 ≤ z → tot cs z ≤ tot cs' z) (hr : 0 < r') (hrr : r' ≤ r) (hL : L ≤ L')
include hne ht hr hrr hL
theorem dl_mono {m k : Rat} (h1 : Dl cs r L m) (h2 : Dl cs' r' L' k) : m ≤ k := by
  rcases h1.at' with h | ⟨z, hz, h⟩
  · rw [h]; exact h2.nn
  · have h3 := h2.up z hz.1
    have h4 := ht z hz.1
    have h5 := tot_nn hne (t := (z : Rat)) (Rat.intCast_le_intCast.2 hz.1)
    have h6 := div_anti h5 hr hrr
    have h7 := div_mono hr h4
    grind
omit hne in
theorem bl_mono {m k : Rat} (h1 : Bl cs r L m) (h2 : Bl cs' r' L' k) : m ≤ k := by
  rcases h1.at' with h | ⟨z, hz, h⟩
  · rw [h]; exact h2.nn
  · have h3 := h2.up z hz
    have h4 := ht z hz
    have h5 : pos (z - L') ≤ pos (z - L) := pos_mono (by grind)
    have h6 := Rat.mul_le_mul_of_nonneg_left h5 (Rat.le_of_lt hr)
    have h7 := Rat.mul_le_mul_of_nonneg_right hrr (pos_nn (z - L))
    grind
end
theorem rate_less {P E : Int} (hP : 1 ≤ P) (hE : 8 ≤ E) : Rat.divInt P E ≤ Rat.divInt P 8 := by
  rw [Rat.divInt_eq_div, Rat.divInt_eq_div]
  have h1 : (0 : Rat) ≤ P := Rat.intCast_le_intCast.2 (show (0 : Int) ≤ P by omega)
  have h2 : ((8 : Int) : Rat) ≤ E := Rat.intCast_le_intCast.2 hE
  exact div_anti h1 (by decide) h2
section
variable {cs cs' : List (List Buck)} (h : SmL cs) (hl : cs.length ≤ 2) (h' : SmL cs') (hl' : cs'.length ≤ 2) {P E E' : Int} (hP : 1 ≤ P ∧ P ≤ 160) (hE : 8 ≤ E ∧ E ≤ 15) (hE' : 8 ≤ E' ∧ E' ≤ 15) {L L' : Int} (hL : 0 ≤ L ∧ L ≤ 510) (hL' : 0 ≤ L' ∧ L' ≤ 510)
  (ht : ∀ z : Int, 0 ≤ z → tot cs z ≤ tot cs' z) (hsum : sumf rateL cs ≤ sumf rateL cs') (hrr : Rat.divInt P E' ≤ Rat.divInt P E) (hLL : L ≤ L')
include h hl h' hl' hP hE hE' hL hL' ht hsum hrr hLL
theorem good_delay : Good (delayV cs (Rat.divInt P E) (L : Rat)) (delayV cs' (Rat.divInt P E') (L' : Rat)) := by
  have p1 := (rate_fit hP hE).2
  have p2 := (rate_fit hP hE').2
  have d1 := delay_sm h hl p1 (D := 8 * P.toNat) (K := 984000) (by omega) (by omega) (by decide) (fun y hy => gd_dive hP hE hy) hL
  have d2 := delay_sm h' hl' p2 (D := 8 * P.toNat) (K := 984000) (by omega) (by omega) (by decide) (fun y hy => gd_dive hP hE' hy) hL'
  by_cases c1 : Rat.divInt P E < sumf rateL cs
  · rw [if_pos c1] at d1
    rw [if_pos (show Rat.divInt P E' < sumf rateL cs' by grind)] at d2
    rw [d1, d2]
    exact .inl ⟨rfl, rfl⟩
  · rw [if_neg c1] at d1
    obtain ⟨m, e1, hm, gm⟩ := d1
    rw [e1]
    by_cases c2 : Rat.divInt P E' < sumf rateL cs'
    · rw [if_pos c2] at d2
      rw [d2]
      exact .inr (.inl ⟨rfl, rfl⟩)
    · rw [if_neg c2] at d2
      obtain ⟨k, e2, hk, gk⟩ := d2
      rw [e2]
      exact .inr (.inr ⟨m, k, ⟨gd_fit gm (by omega) (by omega) (by omega), gd_fit gk (by omega) (by omega) (by omega), dl_mono (fun c hc => (h c hc).1) ht p2 hrr (Rat.intCast_le_intCast.2 hLL) hm hk⟩, rfl, rfl⟩)
theorem good_back (hf : Fit (L : Rat)) (hf' : Fit (L' : Rat)) : Good (backV cs (Rat.divInt P E) (L : Rat) hf) (backV cs' (Rat.divInt P E') (L' : Rat) hf') := by
  have p2 := (rate_fit hP hE').2
  have d1 := back_sm h hl (E := E.toNat) (by omega) (by omega) (gd_rate hP hE) hf hL
  have d2 := back_sm h' hl' (E := E'.toNat) (by omega) (by omega) (gd_rate hP hE') hf' hL'
  by_cases c1 : Rat.divInt P E < sumf rateL cs
  · rw [if_pos c1] at d1
    rw [if_pos (show Rat.divInt P E' < sumf rateL cs' by grind)] at d2
    rw [d1, d2]
    exact .inl ⟨rfl, rfl⟩
  · rw [if_neg c1] at d1
    obtain ⟨m, e1, hm, gm⟩ := d1
    rw [e1]
    by_cases c2 : Rat.divInt P E' < sumf rateL cs'
    · rw [if_pos c2] at d2
      rw [d2]
      exact .inr (.inl ⟨rfl, rfl⟩)
    · rw [if_neg c2] at d2
      obtain ⟨k, e2, hk, gk⟩ := d2
      rw [e2]
      exact .inr (.inr ⟨m, k, ⟨gd_fit gm (by omega) (by omega) (by decide), gd_fit gk (by omega) (by omega) (by decide), bl_mono ht p2 hrr (Rat.intCast_le_intCast.2 hLL) hm hk⟩, rfl, rfl⟩)
end
theorem sml_one {a : List Buck} (hca : a ≠ []) (hsa : ∀ x ∈ a, Sm x) : SmL [a] := fun c hc => by rw [List.mem_singleton.1 hc]; exact ⟨hca, hsa⟩
theorem sml_two {a b : List Buck} (hca : a ≠ []) (hcb : b ≠ []) (hsa : ∀ x ∈ a, Sm x) (hsb : ∀ x ∈ b, Sm x) : SmL [a, b] := fun c hc => by
  simp only [List.mem_cons, List.not_mem_nil, or_false] at hc
  rcases hc with rfl | rfl
  · exact ⟨hca, hsa⟩
  · exact ⟨hcb, hsb⟩
theorem tot_more {a b : List Buck} (hcb : b ≠ []) (z : Int) (hz : 0 ≤ z) : tot [a] z ≤ tot [a, b] z := by
  have := minV_nonneg hcb (t := (z : Rat)) (Rat.intCast_le_intCast.2 hz)
  rw [tot_two]
  show minV a z + 0 ≤ _
  grind
theorem sum_more {a b : List Buck} (hcb : b ≠ []) : sumf rateL [a] ≤ sumf rateL [a, b] := by
  obtain ⟨x, hx, e⟩ := rateL_at hcb
  have := x.pr
  show rateL a + 0 ≤ rateL a + (rateL b + 0)
  grind
end Go.Proofs.YtbncfknjgldcbaaGreat.Mx
