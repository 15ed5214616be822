/- Two sources separated by a newline: plain mathematics. -/
import Derived.Test.YthjpcafnbniafaaToks
namespace Go.Proofs.Ythjpcafnbniafaa

theorem cnt_more {p : BitVec 8 → Bool} (h10 : p 10#8 = false) : ∀ (t u : List (BitVec 8)), cnt p (t ++ 10#8 :: u) = cnt p t
  | [], u => cnt_no h10
  | c :: t, u => by
    cases h : p c with
    | true => rw [List.cons_append, cnt_yes h, cnt_yes h, cnt_more h10 t u]
    | false => rw [List.cons_append, cnt_no h, cnt_no h]
theorem skp_all (b : List (BitVec 8)) : ∀ (x : Bool) (a : List (BitVec 8)), skp x a = a.length → skp x (a ++ 10#8 :: b) = a.length + 1 + skp false b
  | false, [], _ => by rw [List.nil_append, skp_blank (by decide)]; simp; omega
  | true, [], _ => by rw [List.nil_append, skp]; show skp false b + 1 = _; simp; omega
  | false, c :: a, h => by
    rw [List.cons_append]
    cases hc : isBlank c with
    | true =>
      rw [skp_blank hc] at h ⊢
      have := skp_all b false a (by simpa using h)
      rw [this]; simp; omega
    | false =>
      by_cases h3 : c = 35#8
      · subst h3
        rw [skp_hash'] at h ⊢
        have := skp_all b true a (by simpa using h)
        rw [this]; simp; omega
      · rw [skp_none hc h3] at h
        simp at h
  | true, c :: a, h => by
    rw [List.cons_append]
    rw [skp] at h ⊢
    have := skp_all b (notNl c) a (by simpa using h)
    rw [this]; simp; omega
theorem skp_some (u : List (BitVec 8)) : ∀ (x : Bool) (a : List (BitVec 8)), skp x a < a.length → skp x (a ++ u) = skp x a
  | false, [], h => by simp at h
  | true, [], h => by simp at h
  | false, c :: a, h => by
    rw [List.cons_append]
    cases hc : isBlank c with
    | true =>
      rw [skp_blank hc] at h ⊢
      rw [skp_blank hc, skp_some u false a (by simpa using h)]
    | false =>
      by_cases h3 : c = 35#8
      · subst h3
        rw [skp_hash'] at h ⊢
        rw [skp_hash', skp_some u true a (by simpa using h)]
      · rw [skp_none hc h3, skp_none hc h3]
  | true, c :: a, h => by
    rw [List.cons_append]
    rw [skp] at h ⊢
    rw [skp, skp_some u (notNl c) a (by simpa using h)]
/-- A token, further on. -/
def shT (d : Nat) (x : Tk) : Tk := ⟨x.k, x.s, x.o + d⟩
theorem scan_shift (d : Nat) : ∀ (n p : Nat) (l : List (BitVec 8)), l.length ≤ n → scan (p + d) l = (scan p l).map (shT d) := by
  intro n
  induction n with
  | zero =>
    intro p l h
    rw [List.eq_nil_of_length_eq_zero (Nat.le_zero.1 h)]; rfl
  | succ n ih =>
    intro p l h
    cases hd : l.drop (skp false l) with
    | nil => rw [scan_end hd, scan_end hd]; rfl
    | cons c t =>
      have hlen : (l.drop (skp false l)).length = t.length + 1 := by rw [hd]; rfl
      rw [List.length_drop] at hlen
      rw [scan_cons hd, scan_cons hd, List.map_cons, ← ih _ _ (by rw [List.length_drop]; omega)]
      simp only [shT]
      congr 1
      · congr 1; omega
      · congr 1; omega
theorem more_nl (c : BitVec 8) (t u : List (BitVec 8)) : more c (t ++ 10#8 :: u) = more c t := by
  unfold more; split
  · exact cnt_more (by decide) t u
  · rfl
theorem scan_split (b : List (BitVec 8)) : ∀ (n p : Nat) (a : List (BitVec 8)), a.length ≤ n → scan p (a ++ 10#8 :: b) = scan p a ++ scan (p + a.length + 1) b := by
  intro n
  induction n with
  | zero =>
    intro p a h
    obtain rfl := List.eq_nil_of_length_eq_zero (Nat.le_zero.1 h)
    rw [scan_skip p, skp_all b false [] rfl]
    rw [show scan p [] = [] from rfl, List.nil_append, scan_skip _ b]
    show scan (p + (0 + 1 + skp false b)) (List.drop (0 + 1 + skp false b) (10#8 :: b)) = scan (p + 0 + 1 + skp false b) (b.drop (skp false b))
    rw [show 0 + 1 + skp false b = skp false b + 1 by omega, show p + 0 + 1 + skp false b = p + (skp false b + 1) by omega]
    rfl
  | succ n ih =>
    intro p a h
    cases hd : a.drop (skp false a) with
    | nil =>
      have hs : skp false a = a.length := by
        have h1 := skp_le false a
        have h2 : (a.drop (skp false a)).length = 0 := by rw [hd]; rfl
        rw [List.length_drop] at h2
        omega
      rw [scan_end hd, List.nil_append, scan_skip p, skp_all b false a hs, scan_skip _ b]
      congr 1
      · omega
      · rw [List.drop_append, List.drop_eq_nil_of_le (by omega), List.nil_append, show a.length + 1 + skp false b - a.length = skp false b + 1 by omega]
        rfl
    | cons c t =>
      have hlen : (a.drop (skp false a)).length = t.length + 1 := by rw [hd]; rfl
      rw [List.length_drop] at hlen
      have hm := more_le c t
      have hd2 : (a ++ 10#8 :: b).drop (skp false (a ++ 10#8 :: b)) = c :: (t ++ 10#8 :: b) := by
        rw [skp_some _ false a (by omega), List.drop_append_of_le_length (by omega), hd]; rfl
      rw [scan_cons hd, scan_cons hd2, skp_some _ false a (by omega), more_nl, List.take_append_of_le_length hm, List.drop_append_of_le_length hm, ih _ _ (by rw [List.length_drop]; omega), List.cons_append]
      congr 3
      rw [List.length_drop]; omega
theorem find_shift (d : Nat) : ∀ L : List Tk, (L.map (shT d)).find? bad = (L.find? bad).map (shT d)
  | [] => rfl
  | x :: L => by
    rw [List.map_cons, List.find?_cons, List.find?_cons]
    rw [show bad (shT d x) = bad x from rfl]
    cases bad x
    · exact find_shift d L
    · rfl
theorem lexE_zero {l : List (BitVec 8)} (h : l.length ≤ 65536) : lexE l = 0 ↔ (scan 0 l).find? bad = none := by
  unfold lexE
  rw [if_neg (by omega)]
  cases hf : (scan 0 l).find? bad with
  | none => simp
  | some x =>
    have := List.find?_some hf
    simp only [bad, bne_iff_ne] at this
    simpa using this
theorem any_of_find {L : List Tk} (h : L.find? bad = none) : L.any bad = false := by
  rw [List.any_eq_false]
  intro x hx
  have := List.find?_eq_none.1 h x hx
  simpa using this
theorem lexT_ok {l : List (BitVec 8)} (h : l.length ≤ 65536) (hf : (scan 0 l).find? bad = none) : lexT l = scan 0 l ∧ lexO l = 0 ∧ lexE l = 0 := by
  refine ⟨?_, ?_, ?_⟩
  · unfold lexT; rw [if_neg]; rw [any_of_find hf]; simp; omega
  · unfold lexO; rw [if_neg (by omega), hf]
  · unfold lexE; rw [if_neg (by omega), hf]
theorem lexT_bad {l : List (BitVec 8)} (h : l.length ≤ 65536) {x : Tk} (hf : (scan 0 l).find? bad = some x) : lexT l = [] ∧ lexO l = x.o ∧ lexE l = tokE x ∧ tokE x ≠ 0 := by
  refine ⟨?_, ?_, ?_, ?_⟩
  · unfold lexT; rw [if_pos]; right; rw [List.any_eq_true]; exact ⟨x, List.mem_of_find?_eq_some hf, List.find?_some hf⟩
  · unfold lexO; rw [if_neg (by omega), hf]
  · unfold lexE; rw [if_neg (by omega), hf]
  · have := List.find?_some hf
    simpa [bad] using this
/-- A token lies within the source. -/
theorem scan_off : ∀ (n p : Nat) (l : List (BitVec 8)), l.length ≤ n → ∀ x ∈ scan p l, p ≤ x.o ∧ x.o + x.s.length ≤ p + l.length := by
  intro n
  induction n with
  | zero =>
    intro p l h x hx
    rw [List.eq_nil_of_length_eq_zero (Nat.le_zero.1 h)] at hx
    cases hx
  | succ n ih =>
    intro p l h x hx
    cases hd : l.drop (skp false l) with
    | nil => rw [scan_end hd] at hx; cases hx
    | cons c t =>
      have hlen : (l.drop (skp false l)).length = t.length + 1 := by rw [hd]; rfl
      rw [List.length_drop] at hlen
      have hm := more_le c t
      rw [scan_cons hd] at hx
      rcases List.mem_cons.1 hx with rfl | hx
      · simp; omega
      · obtain ⟨h1, h2⟩ := ih _ _ (by rw [List.length_drop]; omega) x hx
        rw [List.length_drop] at h2
        omega
theorem lexO_le (l : List (BitVec 8)) : lexO l ≤ l.length := by
  unfold lexO
  split
  · omega
  · cases hf : (scan 0 l).find? bad with
    | none => exact Nat.zero_le _
    | some x =>
      have := scan_off l.length 0 l (Nat.le_refl _) x (List.mem_of_find?_eq_some hf)
      show x.o ≤ _
      omega
theorem lexT_off (l : List (BitVec 8)) : ∀ x ∈ lexT l, x.o + x.s.length ≤ l.length := fun x hx => by
  unfold lexT at hx
  split at hx
  · cases hx
  · have := scan_off l.length 0 l (Nat.le_refl _) x hx
    omega

/-- What the three calls of LexSplits answer. -/
theorem lex_split (a b : List (BitVec 8)) (h : a.length + b.length ≤ 65535) :
    (lexE a ≠ 0 ∧ lexE (a ++ 10#8 :: b) = lexE a ∧ lexO (a ++ 10#8 :: b) = lexO a ∧ lexT (a ++ 10#8 :: b) = []) ∨
    (lexE a = 0 ∧ lexE b ≠ 0 ∧ lexE (a ++ 10#8 :: b) = lexE b ∧ lexO (a ++ 10#8 :: b) = lexO b + (a.length + 1) ∧ lexT (a ++ 10#8 :: b) = []) ∨
    (lexE a = 0 ∧ lexE b = 0 ∧ lexE (a ++ 10#8 :: b) = 0 ∧ lexT (a ++ 10#8 :: b) = lexT a ++ (lexT b).map (shT (a.length + 1))) := by
  have hs : scan 0 (a ++ 10#8 :: b) = scan 0 a ++ (scan 0 b).map (shT (a.length + 1)) := by
    rw [scan_split b a.length 0 a (Nat.le_refl _), show 0 + a.length + 1 = 0 + (a.length + 1) by omega, scan_shift (a.length + 1) b.length 0 b (Nat.le_refl _)]
  have hl : (a ++ 10#8 :: b).length ≤ 65536 := by simp; omega
  cases hfa : (scan 0 a).find? bad with
  | some x =>
    obtain ⟨h1, h2, h3, h4⟩ := lexT_bad (by omega) hfa
    obtain ⟨g1, g2, g3, _⟩ := lexT_bad hl (x := x) (by rw [hs, List.find?_append, hfa]; rfl)
    exact .inl ⟨by rw [h3]; exact h4, by rw [g3, h3], by rw [g2, h2], g1⟩
  | none =>
    obtain ⟨a1, a2, a3⟩ := lexT_ok (l := a) (by omega) hfa
    cases hfb : (scan 0 b).find? bad with
    | some x =>
      obtain ⟨h1, h2, h3, h4⟩ := lexT_bad (by omega) hfb
      obtain ⟨g1, g2, g3, _⟩ := lexT_bad hl (x := shT (a.length + 1) x) (by rw [hs, List.find?_append, hfa, find_shift, hfb]; rfl)
      exact .inr (.inl ⟨a3, by rw [h3]; exact h4, by rw [g3, h3]; rfl, by rw [g2, h2]; rfl, g1⟩)
    | none =>
      obtain ⟨b1, b2, b3⟩ := lexT_ok (l := b) (by omega) hfb
      obtain ⟨g1, _, g3⟩ := lexT_ok hl (by rw [hs, List.find?_append, hfa, find_shift, hfb]; rfl)
      exact .inr (.inr ⟨a3, b3, g3, by rw [g1, hs, a1, b1]⟩)
end Go.Proofs.Ythjpcafnbniafaa
