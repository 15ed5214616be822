/- What the laws RatOrder and RatField ask of three numbers: plain mathematics. -/
import Derived.Test.YtcngbipgnpjohaaDoorNum
namespace Go.Proofs.YtcngbipgnpjohaaDoor.Num
open Go.RowKit

theorem lt_tr {a b c : Rat} (h1 : a < b) (h2 : b < c) : a < c := Rat.not_le.1 fun h => absurd (Rat.le_trans h (Rat.le_of_lt h1)) (Rat.not_le.2 h2)
/-- What the law asks of three numbers. -/
theorem facts {r s t : Rat} (br : Bd r 1000 30) (bs : Bd s 1000 30) (bt : Bd t 1000 30) : ∃ c c2 c3 pn pd an ad bn bd : Int,
    cmpN r.num r.den s.num s.den = c ∧ cmpN s.num s.den r.num r.den = -c ∧ cmpN s.num s.den t.num t.den = c2 ∧ cmpN r.num r.den t.num t.den = c3 ∧
    subN r.num r.den s.num s.den = (pn, pd, 0) ∧ addN r.num r.den t.num t.den = (an, ad, 0) ∧ addN s.num s.den t.num t.den = (bn, bd, 0) ∧
    cmpN pn pd 0 1 = c ∧ cmpN an ad bn bd = c ∧
    ((c = 0 ∧ r.num = s.num ∧ (r.den : Int) = s.den) ∨ (c = 1 ∧ ¬ (r.num = s.num ∧ (r.den : Int) = s.den)) ∨ (c = -1 ∧ c2 < 0 ∧ c3 < 0 ∧ ¬ (r.num = s.num ∧ (r.den : Int) = s.den)) ∨ (c = -1 ∧ ¬ c2 < 0 ∧ ¬ (r.num = s.num ∧ (r.den : Int) = s.den))) ∧
    (pn.natAbs ≤ 60000 ∧ pd.natAbs ≤ 900 ∧ an.natAbs ≤ 60000 ∧ ad.natAbs ≤ 900 ∧ bn.natAbs ≤ 60000 ∧ bd.natAbs ≤ 900) := by
  have big : ∀ {x : Rat} {A B : Nat}, Bd x A B → A ≤ 1073741824 → B ≤ 1073741824 → Bd x 1073741824 1073741824 := fun h a b => bd_le h a b
  have r' := big br (by decide) (by decide)
  have s' := big bs (by decide) (by decide)
  have t' := big bt (by decide) (by decide)
  have bp := bd_sub br bs
  have ba := bd_add br bt
  have bb := bd_add bs bt
  have z' : Bd (0 : Rat) 1073741824 1073741824 := by constructor <;> decide
  have p' := big bp (by decide) (by decide)
  have a' := big ba (by decide) (by decide)
  have b' := big bb (by decide) (by decide)
  have ne : ¬ r = s → ¬ (r.num = s.num ∧ (r.den : Int) = s.den) := fun h ⟨h1, h2⟩ => h (Rat.ext h1 (by omega))
  have z1 : ((0 : Rat).num) = 0 := rfl
  have z2 : (((0 : Rat).den : Nat) : Int) = 1 := rfl
  refine ⟨if r < s then -1 else if s < r then 1 else 0, _, _, (r - s).num, (r - s).den, (r + t).num, (r + t).den, (s + t).num, (s + t).den, cmpN_r r' s', ?_, rfl, rfl, ?_, ?_, ?_, ?_, ?_, ?_, bp.1, by have := bp.2; omega, ba.1, by have := ba.2; omega, bb.1, by have := bb.2; omega⟩
  · rw [cmpN_r s' r']
    by_cases h1 : r < s
    · have h2 : ¬ s < r := fun h => Rat.lt_irrefl (lt_tr h1 h)
      simp [h1, h2]
    · by_cases h2 : s < r <;> simp [h1, h2]
  · rw [subN_r r' s']; exact ofR_fits bp (by decide) (by decide)
  · rw [addN_r r' t']; exact ofR_fits ba (by decide) (by decide)
  · rw [addN_r s' t']; exact ofR_fits bb (by decide) (by decide)
  · have hz := cmpN_r p' z'
    rw [z1, z2] at hz
    rw [hz]
    have e1 : r - s < 0 ↔ r < s := by
      have := Rat.add_lt_add_right (a := r - s) (b := 0) (c := s)
      rw [Rat.sub_add_cancel, Rat.zero_add] at this
      exact this.symm
    have e2 : 0 < r - s ↔ s < r := (Rat.lt_iff_sub_pos s r).symm
    simp only [e1, e2]
  · rw [cmpN_r a' b']
    simp only [Rat.add_lt_add_right]
  · rw [cmpN_r s' t', cmpN_r r' t']
    by_cases h1 : r < s
    · have hn : ¬ r = s := Rat.ne_of_lt h1
      rw [if_pos h1]
      by_cases h2 : s < t
      · exact Or.inr (Or.inr (Or.inl ⟨rfl, by rw [if_pos h2]; decide, by rw [if_pos (lt_tr h1 h2)]; decide, ne hn⟩))
      · exact Or.inr (Or.inr (Or.inr ⟨rfl, by rw [if_neg h2]; split <;> decide, ne hn⟩))
    · rw [if_neg h1]
      by_cases h2 : s < r
      · exact Or.inr (Or.inl ⟨by rw [if_pos h2], ne (Rat.ne_of_gt h2)⟩)
      · have : r = s := Rat.le_antisymm (Rat.not_lt.1 h2) (Rat.not_lt.1 h1)
        subst this
        exact Or.inl ⟨by rw [if_neg h2], rfl, rfl⟩

end Go.Proofs.YtcngbipgnpjohaaDoor.Num
