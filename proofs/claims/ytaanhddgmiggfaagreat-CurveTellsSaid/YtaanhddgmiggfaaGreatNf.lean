/- The normal form: what it is, and that it is the only one. -/
import Derived.Test.YtaanhddgmiggfaaGreatCompact
namespace Go.Proofs.YtaanhddgmiggfaaGreat
open Go.RowKit Go.Shelf Go.Sort Num

/-- x comes before y in a normal form. -/
def Buck.bef (x y : Buck) : Prop := x.b < y.b ∧ y.r < x.r
/-- x is at most y everywhere. -/
def Buck.le (x y : Buck) : Prop := x.b ≤ y.b ∧ x.r ≤ y.r
theorem Buck.le_refl (x : Buck) : x.le x := ⟨Rat.le_refl, Rat.le_refl⟩
theorem Buck.le_trans {x y z : Buck} (h : x.le y) (k : y.le z) : x.le z := ⟨Rat.le_trans h.1 k.1, Rat.le_trans h.2 k.2⟩
theorem Buck.bef_trans {x y z : Buck} (h : x.bef y) (k : y.bef z) : x.bef z := ⟨lt_tr' h.1 k.1, lt_tr' k.2 h.2⟩
theorem dom_iff {x y : Buck} (h : x ≠ y) : x.domB y = true ↔ x.le y := by
  unfold Buck.domB Buck.le
  simp only [ne_eq, h, not_false_eq_true, decide_true, Bool.true_and, Bool.and_eq_true, decide_eq_true_eq, cmpQ_le]
/-- kept is a normal form of done. -/
structure Nf (kept done : List Buck) : Prop where
  o : kept.Pairwise Buck.bef
  s : ∀ x ∈ kept, x ∈ done
  c : ∀ x ∈ done, ∃ y ∈ kept, y.le x
theorem Nf.nil : Nf [] [] := ⟨.nil, fun _ h => h, fun _ h => absurd h List.not_mem_nil⟩
theorem pw_snoc {acc : List Buck} {b : Buck} (h : acc.Pairwise Buck.bef) (hl : ∀ l, acc.getLast? = some l → l.bef b) : (acc ++ [b]).Pairwise Buck.bef := by
  rw [List.pairwise_append]
  refine ⟨h, List.pairwise_singleton _ _, fun x hx y hy => ?_⟩
  simp only [List.mem_singleton] at hy
  subst hy
  rcases List.eq_nil_or_concat acc with rfl | ⟨init, l, rfl⟩
  · cases hx
  · rw [List.concat_eq_append] at h hl hx
    have hlb := hl l (by simp)
    rcases List.mem_append.1 hx with hx | hx
    · exact Buck.bef_trans ((List.pairwise_append.1 h).2.2 x hx l (by simp)) hlb
    · simp only [List.mem_singleton] at hx; subst hx; exact hlb
theorem Nf.step {acc done : List Buck} {b : Buck} (h : Nf acc done) (hs : ∀ d ∈ done, ¬ b.lt d) : Nf (keepB acc b) (done ++ [b]) := by
  have hmem : ∀ x ∈ acc, x ∈ done ++ [b] := fun x hx => List.mem_append_left _ (h.s x hx)
  have hbm : b ∈ done ++ [b] := by simp
  have old : ∀ {L : List Buck}, (∀ x ∈ acc, x ∈ L) → (∃ y ∈ L, y.le b) → ∀ x ∈ done ++ [b], ∃ y ∈ L, y.le x := fun {L} hL hb x hx => by
    rcases List.mem_append.1 hx with hx | hx
    · obtain ⟨y, hy, hle⟩ := h.c x hx
      exact ⟨y, hL y hy, hle⟩
    · simp only [List.mem_singleton] at hx; subst hx; exact hb
  have app : (∀ l, acc.getLast? = some l → l.bef b) → Nf (acc ++ [b]) (done ++ [b]) := fun hl =>
    ⟨pw_snoc h.o hl, fun x hx => by
      rcases List.mem_append.1 hx with hx | hx
      · exact hmem x hx
      · simp only [List.mem_singleton] at hx; subst hx; exact hbm,
     old (fun x hx => List.mem_append_left _ hx) ⟨b, by simp, b.le_refl⟩⟩
  rcases List.eq_nil_or_concat acc with rfl | ⟨init, l, rfl⟩
  · exact app (fun l hl => by simp at hl)
  · rw [List.concat_eq_append] at *
    have hld : l ∈ done := h.s l (by simp)
    have hlb := hs l hld
    by_cases he : l = b
    · subst he
      rw [keep_same]
      exact ⟨h.o, hmem, old (fun x hx => hx) ⟨l, by simp, l.le_refl⟩⟩
    · cases hd : l.domB b
      · rw [keep_more _ he hd]
        refine app fun l' hl' => ?_
        rw [List.getLast?_concat] at hl'
        cases hl'
        have hn : ¬ l.le b := fun hle => by rw [(dom_iff he).2 hle] at hd; cases hd
        have h1 : l.b ≤ b.b := Rat.not_lt.1 fun hlt => hlb (.inl hlt)
        have h2 : b.r < l.r := Rat.not_le.1 fun hle => hn ⟨h1, hle⟩
        refine ⟨?_, h2⟩
        rcases Rat.le_iff_lt_or_eq.1 h1 with h3 | h3
        · exact h3
        · exact absurd (.inr ⟨h3.symm, h2⟩) hlb
      · rw [keep_dom _ hd]
        exact ⟨h.o, hmem, old (fun x hx => hx) ⟨l, by simp, (dom_iff he).1 hd⟩⟩
theorem nf_fold : ∀ (rest done acc : List Buck), Nf acc done → (done ++ rest).Pairwise (fun x y => ¬ y.lt x) → Nf (rest.foldl keepB acc) (done ++ rest)
  | [], done, acc, h, _ => by simpa using h
  | b :: rest, done, acc, h, hp => by
    rw [List.foldl_cons]
    have e : done ++ b :: rest = done ++ [b] ++ rest := by simp
    rw [e] at hp ⊢
    exact nf_fold rest (done ++ [b]) _ (h.step fun d hd => (List.pairwise_append.1 (List.pairwise_append.1 hp).1).2.2 d hd b (by simp)) hp
theorem sortL_mem {c : List Buck} {x : Buck} : x ∈ sortL c ↔ x ∈ c := List.mem_mergeSort
theorem sortL_pw (c : List Buck) : (sortL c).Pairwise (fun x y => ¬ y.lt x) := by
  have h := List.pairwise_mergeSort (le := fun x y => !(ltOf Buck.ord) y x) (fun x y z h1 h2 => by
    simp only [Bool.not_eq_true', ltOf_not] at h1 h2 ⊢
    intro h3
    by_cases h4 : y.lt z
    · exact h1 (buck_trans h4 h3)
    · have := buck_tri y z h4 h2
      subst this
      exact h1 h3) (fun x y => by
    simp only [Bool.or_eq_true, Bool.not_eq_true', ltOf_not]
    by_cases h : y.lt x
    · exact .inr fun k => buck_irrefl _ (buck_trans h k)
    · exact .inl h) c
  exact h.imp fun {x y} k => by simpa only [Bool.not_eq_true', ltOf_not] using k
theorem normL_nf (c : List Buck) : Nf (normL c) c := by
  have h := nf_fold (sortL c) [] [] .nil (by simpa using sortL_pw c)
  rw [List.nil_append] at h
  exact ⟨h.o, fun x hx => sortL_mem.1 (h.s x hx), fun x hx => h.c x (sortL_mem.2 hx)⟩

/-- In a normal form only equal buckets are at most one another. -/
theorem bef_le {x y : Buck} (h : x.bef y) : ¬ x.le y ∧ ¬ y.le x := ⟨fun k => Rat.not_le.2 h.2 k.2, fun k => Rat.not_le.2 h.1 k.1⟩
theorem pw_le {L : List Buck} (h : L.Pairwise Buck.bef) {x y : Buck} (hx : x ∈ L) (hy : y ∈ L) (hle : x.le y) : x = y := by
  induction L with
  | nil => cases hx
  | cons z L ih =>
    rw [List.pairwise_cons] at h
    rcases List.mem_cons.1 hx with k1 | k1 <;> rcases List.mem_cons.1 hy with k2 | k2
    · rw [k1, k2]
    · subst k1; exact absurd hle (bef_le (h.1 y k2)).1
    · subst k2; exact absurd hle (bef_le (h.1 x k1)).2
    · exact ih h.2 k1 k2
theorem le_anti {x y : Buck} (h : x.le y) (k : y.le x) : x = y := Buck.ext' (Rat.le_antisymm h.1 k.1) (Rat.le_antisymm h.2 k.2)
theorem pw_ext {L M : List Buck} (hL : L.Pairwise Buck.bef) (hM : M.Pairwise Buck.bef) (h : ∀ x, x ∈ L ↔ x ∈ M) : L = M := by
  induction L generalizing M with
  | nil =>
    cases M with
    | nil => rfl
    | cons y M => exact absurd ((h y).2 (by simp)) List.not_mem_nil
  | cons x L ih =>
    cases M with
    | nil => exact absurd ((h x).1 (by simp)) List.not_mem_nil
    | cons y M =>
      rw [List.pairwise_cons] at hL hM
      have hxy : x = y := by
        rcases List.mem_cons.1 ((h x).1 (by simp)) with e | hx
        · exact e
        · rcases List.mem_cons.1 ((h y).2 (by simp)) with e | hy
          · exact e.symm
          · exact absurd (lt_tr' (hM.1 x hx).1 (hL.1 y hy).1) Rat.lt_irrefl
      subst hxy
      rw [ih hL.2 hM.2 fun z => ?_]
      constructor
      · intro hz
        rcases List.mem_cons.1 ((h z).1 (List.mem_cons_of_mem _ hz)) with e | hz'
        · subst e; exact absurd (hL.1 _ hz).1 Rat.lt_irrefl
        · exact hz'
      · intro hz
        rcases List.mem_cons.1 ((h z).2 (List.mem_cons_of_mem _ hz)) with e | hz'
        · subst e; exact absurd (hM.1 _ hz).1 Rat.lt_irrefl
        · exact hz'
/-- There is one normal form only, whatever the order of the buckets, and whatever buckets are added that are not below. -/
theorem Nf.uniq {L M c d : List Buck} (hL : Nf L c) (hM : Nf M d) (h1 : ∀ x ∈ L, ∃ y ∈ d, y.le x) (h2 : ∀ x ∈ M, ∃ y ∈ c, y.le x) : L = M := by
  have one : ∀ {L M c d : List Buck}, Nf L c → Nf M d → (∀ x ∈ L, ∃ y ∈ d, y.le x) → (∀ x ∈ M, ∃ y ∈ c, y.le x) → ∀ x ∈ L, x ∈ M := fun {L M c d} hL hM h1 h2 x hx => by
    obtain ⟨y, hy, hyx⟩ := h1 x hx
    obtain ⟨m, hm, hmy⟩ := hM.c y hy
    obtain ⟨z, hz, hzm⟩ := h2 m hm
    obtain ⟨l, hl, hlz⟩ := hL.c z hz
    have hlm := Buck.le_trans hlz hzm
    have hlx := Buck.le_trans hlm (Buck.le_trans hmy hyx)
    have e := pw_le hL.o hl hx hlx
    subst e
    have := le_anti hlm (Buck.le_trans hmy hyx)
    subst this
    exact hm
  exact pw_ext hL.o hM.o fun x => ⟨one hL hM h1 h2 x, one hM hL h2 h1 x⟩
theorem nf_uniq {L c : List Buck} (h : Nf L c) : normL c = L := (normL_nf c).uniq h (fun x hx => ⟨x, (normL_nf c).s x hx, x.le_refl⟩) (fun x hx => ⟨x, h.s x hx, x.le_refl⟩)
theorem normL_idem (c : List Buck) : normL (normL c) = normL c := nf_uniq ⟨(normL_nf c).o, fun _ h => h, fun x hx => ⟨x, hx, x.le_refl⟩⟩
theorem normL_mem_eq {c d : List Buck} (h : ∀ x, x ∈ c ↔ x ∈ d) : normL c = normL d := nf_uniq ⟨(normL_nf d).o, fun x hx => (h x).2 ((normL_nf d).s x hx), fun x hx => (normL_nf d).c x ((h x).1 hx)⟩
theorem normL_ne {c : List Buck} (h : c ≠ []) : normL c ≠ [] := by
  intro e
  obtain ⟨x, hx⟩ := List.exists_mem_of_ne_nil c h
  obtain ⟨y, hy, _⟩ := (normL_nf c).c x hx
  rw [e] at hy; cases hy
theorem normL_len (c : List Buck) : (normL c).length ≤ c.length := by
  have := foldl_keep_length (sortL c) []
  rw [sortL_length] at this
  simpa [normL] using this
theorem twosL_mem {c : List Buck} (h : c.Pairwise Buck.bef) : ∀ p ∈ twosL c, p.1.bef p.2 := by
  induction c with
  | nil => intro p hp; cases hp
  | cons x l ih =>
    rw [List.pairwise_cons] at h
    intro p hp
    simp only [twosL, List.mem_append, List.mem_map] at hp
    rcases hp with ⟨y, hy, rfl⟩ | hp
    · exact h.1 y hy
    · exact ih h.2 p hp
theorem twosL_sub {c : List Buck} : ∀ p ∈ twosL c, p.1 ∈ c ∧ p.2 ∈ c := by
  induction c with
  | nil => intro p hp; cases hp
  | cons x l ih =>
    intro p hp
    simp only [twosL, List.mem_append, List.mem_map] at hp
    rcases hp with ⟨y, hy, rfl⟩ | hp
    · exact ⟨by simp, List.mem_cons_of_mem _ hy⟩
    · exact ⟨List.mem_cons_of_mem _ (ih p hp).1, List.mem_cons_of_mem _ (ih p hp).2⟩
theorem twosL_length (c : List Buck) : (twosL c).length ≤ c.length * c.length := by
  induction c with
  | nil => simp [twosL]
  | cons x l ih =>
    simp only [twosL, List.length_append, List.length_map, List.length_cons]
    have : (l.length + 1) * (l.length + 1) = l.length * l.length + l.length + l.length + 1 := by
      rw [Nat.succ_mul, Nat.mul_succ]; omega
    omega
end Go.Proofs.YtaanhddgmiggfaaGreat
