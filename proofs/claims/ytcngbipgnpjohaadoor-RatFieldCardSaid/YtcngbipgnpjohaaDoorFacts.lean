/- What the laws RatOrder and RatField ask of three numbers: plain mathematics. -/
import Derived.Test.YtcngbipgnpjohaaDoorNum
namespace Go.Proofs.YtcngbipgnpjohaaDoor.Num
open Go.RowKit

theorem lt_tr {a b c : Rat} (h1 : a < b) (h2 : b < c) : a < c := Rat.not_le.1 fun h => absurd (Rat.le_trans h (Rat.le_of_lt h1)) (Rat.not_le.2 h2)
/-- What the law asks of three numbers. -/
theorem facts {r s t : Rat} (br : Bd r 1000 30) (bs : Bd s 1000 30) (bt : Bd t 1000 30) : ∃ c c2 c3 pn pd an ad bn bd : Int,
    cmpN r.num r.den s.num s.den = c ∧ cmpN s.num s.den r.num r.den = -c ∧ cmpN s.num s.den t.num t.den = c2 ∧ cmpN r.num r.den t.num t.den = c3 ∧
    subN r.num r.den s.num s.den = (pn, pd, 0) ∧ addN r.num r.den t.num t.den = (an, ad, 0) ∧ addN s.num s.den t.num t.den = (bn, bd, 0) ∧
    cmpN pn pd 0 1 = c ∧ cmpN an ad bn bd = c ∧
    ((c = 0 ∧ r.num = s.num ∧ (r.den : Int) = s.den) ∨ (c = 1 ∧ ¬ (r.num = s.num ∧ (r.den : Int) = s.den)) ∨ (c = -1 ∧ c2 < 0 ∧ c3 < 0 ∧ ¬ (r.num = s.num ∧ (r.den : Int) = s.den)) ∨ (c = -1 ∧ ¬ c2 < 0 ∧ ¬ (r.num = s.num ∧ (r.den : Int) = s.den))) ∧
    (pn.natAbs ≤ 60000 ∧ pd.natAbs ≤ 900 ∧ an.natAbs ≤ 60000 ∧ ad.natAbs ≤ 900 ∧ bn.natAbs ≤ 60000 ∧ bd.natAbs ≤ 900) := by
  have big : ∀ {x : Rat} {A B : Nat}, Bd x A B → A ≤ 1073741824 → B ≤ 1073741824 → Bd x 1073741824 1073741824 := fun h a b => bd_le h a b
  have r' := big br (by decide) (by decide)
  have s' := big bs (by decide) (by decide)
  have t' := big bt (by decide) (by decide)
  have bp := bd_sub br bs
  have ba := bd_add br bt
  have bb := bd_add bs bt
  have z' : Bd (0 : Rat) 1073741824 1073741824 := by constructor <;> decide
  have p' := big bp (by decide) (by decide)
  have a' := big ba (by decide) (by decide)
  have b' := big bb (by decide) (by decide)
  have ne : ¬ r = s → ¬ (r.num = s.num ∧ (r.den : Int) = s.den) := fun h ⟨h1, h2⟩ => h (Rat.ext h1 (by omega))
  have z1 : ((0 : Rat).num) = 0 := rfl
  have z2 : (((0 : Rat).den : Nat) : Int) = 1 := rfl
  refine ⟨if r < s then -1 else if s < r then 1 else 0, _, _, (r - s).num, (r - s).den, (r + t).num, (r + t).den, (s + t).num, (s + t).den, cmpN_r r' s', ?_, rfl, rfl, ?_, ?_, ?_, ?_, ?_, ?_, bp.1, by have := bp.2; omega, ba.1, by have := ba.2; omega, bb.1, by have := bb.2; omega⟩
  · rw [cmpN_r s' r']
    by_cases h1 : r < s
    · have h2 : ¬ s < r := fun h => Rat.lt_irrefl (lt_tr h1 h)
      simp [h1, h2]
    · by_cases h2 : s < r <;> simp [h1, h2]
  · rw [subN_r r' s']; exact ofR_fits bp (by decide) (by decide)
  · rw [addN_r r' t']; exact ofR_fits ba (by decide) (by decide)
  · rw [addN_r s' t']; exact ofR_fits bb (by decide) (by decide)
  · have hz := cmpN_r p' z'
    rw [z1, z2] at hz
    rw [hz]
    have e1 : r - s < 0 ↔ r < s := by
      have := Rat.add_lt_add_right (a := r - s) (b := 0) (c := s)
      rw [Rat.sub_add_cancel, Rat.zero_add] at this
      exact this.symm
    have e2 : 0 < r - s ↔ s < r := (Rat.lt_iff_sub_pos s r).symm
    simp only [e1, e2]
  · rw [cmpN_r a' b']
    simp only [Rat.add_lt_add_right]
  · rw [cmpN_r s' t', cmpN_r r' t']
    by_cases h1 : r < s
    · have hn : ¬ r = s := Rat.ne_of_lt h1
      rw [if_pos h1]
      by_cases h2 : s < t
      · exact Or.inr (Or.inr (Or.inl ⟨rfl, by rw [if_pos h2]; decide, by rw [if_pos (lt_tr h1 h2)]; decide, ne hn⟩))
      · exact Or.inr (Or.inr (Or.inr ⟨rfl, by rw [if_neg h2]; split <;> decide, ne hn⟩))
    · rw [if_neg h1]
      by_cases h2 : s < r
      · exact Or.inr (Or.inl ⟨by rw [if_pos h2], ne (Rat.ne_of_gt h2)⟩)
      · have : r = s := Rat.le_antisymm (Rat.not_lt.1 h2) (Rat.not_lt.1 h1)
        subst this
        exact Or.inl ⟨by rw [if_neg h2], rfl, rfl⟩


theorem small {r : Rat} {A B : Nat} (h : Bd r A B) (ha : A ≤ 1073741824) (hb : B ≤ 1073741824) : (-9223372036854775808 ≤ r.num ∧ r.num ≤ 9223372036854775807) ∧ (-9223372036854775808 ≤ (r.den : Int) ∧ (r.den : Int) ≤ 9223372036854775807) := by
  obtain ⟨h1, h2⟩ := h
  omega

/-- What the law RatField asks of three numbers. -/
structure FieldFacts (xn xd yn yd zn zd an ad mn md azn azd yzn yzd mzn mzd qn qd dn dd nn nd : Int) : Prop where
  f1 : addN xn xd yn yd = (an, ad, 0)
  f2 : addN yn yd xn xd = (an, ad, 0)
  f3 : mulN xn xd yn yd = (mn, md, 0)
  f4 : mulN yn yd xn xd = (mn, md, 0)
  f6 : addN an ad zn zd = (azn, azd, 0)
  f7 : addN yn yd zn zd = (yzn, yzd, 0)
  f8 : addN xn xd yzn yzd = (azn, azd, 0)
  f10 : mulN mn md zn zd = (mzn, mzd, 0)
  f11 : mulN yn yd zn zd = (qn, qd, 0)
  f12 : mulN xn xd qn qd = (mzn, mzd, 0)
  f14 : mulN xn xd yzn yzd = (dn, dd, 0)
  f16 : mulN xn xd zn zd = (nn, nd, 0)
  f17 : addN mn md nn nd = (dn, dd, 0)
  f19 : subN an ad yn yd = (xn, xd, 0)
  f22 : yn ≠ 0 → divN mn md yn yd = (xn, xd, 0)
  bx : (-9223372036854775808 ≤ xn ∧ xn ≤ 9223372036854775807) ∧ (-9223372036854775808 ≤ xd ∧ xd ≤ 9223372036854775807)
  bY : (-9223372036854775808 ≤ yn ∧ yn ≤ 9223372036854775807) ∧ (-9223372036854775808 ≤ yd ∧ yd ≤ 9223372036854775807)
  bz : (-9223372036854775808 ≤ zn ∧ zn ≤ 9223372036854775807) ∧ (-9223372036854775808 ≤ zd ∧ zd ≤ 9223372036854775807)
  ba : (-9223372036854775808 ≤ an ∧ an ≤ 9223372036854775807) ∧ (-9223372036854775808 ≤ ad ∧ ad ≤ 9223372036854775807)
  bm : (-9223372036854775808 ≤ mn ∧ mn ≤ 9223372036854775807) ∧ (-9223372036854775808 ≤ md ∧ md ≤ 9223372036854775807)
  byz : (-9223372036854775808 ≤ yzn ∧ yzn ≤ 9223372036854775807) ∧ (-9223372036854775808 ≤ yzd ∧ yzd ≤ 9223372036854775807)
  bq : (-9223372036854775808 ≤ qn ∧ qn ≤ 9223372036854775807) ∧ (-9223372036854775808 ≤ qd ∧ qd ≤ 9223372036854775807)
  bn : (-9223372036854775808 ≤ nn ∧ nn ≤ 9223372036854775807) ∧ (-9223372036854775808 ≤ nd ∧ nd ≤ 9223372036854775807)

theorem field_facts {r s t : Rat} (br : Bd r 1000 30) (bs : Bd s 1000 30) (bt : Bd t 1000 30) :
    FieldFacts r.num r.den s.num s.den t.num t.den (r + s).num (r + s).den (r * s).num (r * s).den (r + s + t).num (r + s + t).den (s + t).num (s + t).den (r * s * t).num (r * s * t).den (s * t).num (s * t).den (r * (s + t)).num (r * (s + t)).den (r * t).num (r * t).den := by
  have ba := bd_add br bs
  have bm := bd_mul br bs
  have baz := bd_add ba bt
  have byz := bd_add bs bt
  have bmz := bd_mul bm bt
  have bq := bd_mul bs bt
  have bd := bd_mul br byz
  have bn := bd_mul br bt
  have B : ∀ {x : Rat} {A B : Nat}, Bd x A B → A ≤ 1073741824 → B ≤ 1073741824 → Bd x 1073741824 1073741824 := fun h a b => bd_le h a b
  have R := B br (by decide) (by decide)
  have S := B bs (by decide) (by decide)
  have T := B bt (by decide) (by decide)
  have A := B ba (by decide) (by decide)
  have M := B bm (by decide) (by decide)
  have AZ := B baz (by decide) (by decide)
  have YZ := B byz (by decide) (by decide)
  have MZ := B bmz (by decide) (by decide)
  have Q := B bq (by decide) (by decide)
  have D := B bd (by decide) (by decide)
  have N := B bn (by decide) (by decide)
  have F : ∀ {x : Rat}, Bd x 1073741824 1073741824 → ofR x = (x.num, (x.den : Int), 0) := fun h => ofR_fits h (Nat.le_refl _) (Nat.le_refl _)
  have Z : ∀ {x : Rat}, Bd x 1073741824 1073741824 → _ := fun {x} h => small (r := x) h (Nat.le_refl _) (Nat.le_refl _)
  refine ⟨?_, ?_, ?_, ?_, ?_, ?_, ?_, ?_, ?_, ?_, ?_, ?_, ?_, ?_, ?_, Z R, Z S, Z T, Z A, Z M, Z YZ, Z Q, Z N⟩
  · rw [addN_r R S, F A]
  · rw [addN_r S R, Rat.add_comm, F A]
  · rw [mulN_r R S, F M]
  · rw [mulN_r S R, Rat.mul_comm, F M]
  · rw [addN_r A T, F AZ]
  · rw [addN_r S T, F YZ]
  · rw [addN_r R YZ, ← Rat.add_assoc, F AZ]
  · rw [mulN_r M T, F MZ]
  · rw [mulN_r S T, F Q]
  · rw [mulN_r R Q, ← Rat.mul_assoc, F MZ]
  · rw [mulN_r R YZ, F D]
  · rw [mulN_r R T, F N]
  · rw [addN_r M N, ← Rat.mul_add, F D]
  · rw [subN_r A S, Rat.add_sub_cancel, F R]
  · intro h0
    have hs : s ≠ 0 := fun h => h0 (by rw [h]; rfl)
    rw [divN_r M S hs, Rat.mul_div_cancel hs, F R]
end Go.Proofs.YtcngbipgnpjohaaDoor.Num
