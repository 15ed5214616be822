/- What the reference's normal form and its list of points are, as lists. -/
import Derived.Test.YtaanhddgmiggfaaGreatBreaks
namespace Go.Proofs.YtaanhddgmiggfaaGreat.Ref
open Go.RowKit Go.Joins Go.Shelf Go.Sort Num

/-! The breakpoints. -/
theorem comp_fold : ∀ (l acc : List Pt), acc.Pairwise (fun a b => a.q < b.q) → (∀ a ∈ acc, ∀ b ∈ l, a.q ≤ b.q) → l.Pairwise (fun a b => a.q ≤ b.q) →
    (l.foldl stepP acc).Pairwise (fun a b => a.q < b.q) ∧ ∀ z, z ∈ l.foldl stepP acc ↔ z ∈ acc ∨ z ∈ l
  | [], acc, h, _, _ => ⟨h, fun z => by simp⟩
  | x :: l, acc, h1, h2, h3 => by
    rw [List.foldl_cons]
    rw [List.pairwise_cons] at h3
    by_cases hl : acc.getLast? = some x
    · have e : stepP acc x = acc := if_pos hl
      rw [e]
      obtain ⟨a, b⟩ := comp_fold l acc h1 (fun a ha b hb => h2 a ha b (List.mem_cons_of_mem _ hb)) h3.2
      refine ⟨a, fun z => ?_⟩
      rw [b, List.mem_cons]
      constructor
      · rintro (h | h)
        · exact .inl h
        · exact .inr (.inr h)
      · rintro (h | h | h)
        · exact .inl h
        · subst h; exact .inl (List.mem_of_getLast? hl)
        · exact .inr h
    · have e : stepP acc x = acc ++ [x] := if_neg hl
      rw [e]
      have hlt : ∀ a ∈ acc, a.q < x.q := fun a ha => by
        have hle := h2 a ha x (by simp)
        rcases Rat.le_iff_lt_or_eq.1 hle with h | h
        · exact h
        · exfalso
          rcases List.eq_nil_or_concat acc with rfl | ⟨init, z, rfl⟩
          · cases ha
          · rw [List.concat_eq_append] at *
            have hzx := h2 z (by simp) x (by simp)
            have hz : z ≠ x := fun e => hl (by rw [List.getLast?_concat, e])
            rcases List.mem_append.1 ha with ha | ha
            · have := (List.pairwise_append.1 h1).2.2 a ha z (by simp)
              grind
            · simp only [List.mem_singleton] at ha
              subst ha
              exact hz (Pt.ext' h)
      obtain ⟨a, b⟩ := comp_fold l (acc ++ [x]) (by
        rw [List.pairwise_append]
        exact ⟨h1, List.pairwise_singleton _ _, fun a ha b hb => by simp only [List.mem_singleton] at hb; subst hb; exact hlt a ha⟩)
        (fun a ha b hb => by
          rcases List.mem_append.1 ha with ha | ha
          · exact h2 a ha b (List.mem_cons_of_mem _ hb)
          · simp only [List.mem_singleton] at ha; subst ha; exact h3.1 b hb) h3.2
      refine ⟨a, fun z => ?_⟩
      rw [b]
      simp [or_assoc]
theorem sortP_pw (c : List Pt) : (sortP c).Pairwise (fun a b => a.q ≤ b.q) := by
  have h := List.pairwise_mergeSort (le := fun x y => !(ltOf Pt.ord) y x) (fun x y z h1 h2 => by
    simp only [Bool.not_eq_true', ptlt_not] at h1 h2 ⊢
    grind) (fun x y => by
    simp only [Bool.or_eq_true, Bool.not_eq_true', ptlt_not]
    grind) c
  exact h.imp fun {x y} k => by simp only [Bool.not_eq_true', ptlt_not] at k; exact Rat.not_lt.1 k
theorem brk_spec (N : List Buck) : (brkL N).Pairwise (fun a b => a.q < b.q) ∧ ∀ z, z ∈ brkL N ↔ z ∈ (twosL N).map meetP := by
  obtain ⟨h1, h2⟩ := comp_fold (sortP ((twosL N).map meetP)) [] .nil (fun _ h => by cases h) (sortP_pw _)
  refine ⟨h1, fun z => ?_⟩
  show z ∈ (sortP ((twosL N).map meetP)).foldl stepP [] ↔ _
  rw [h2]
  simp [sortP, List.mem_mergeSort]

/-- Bucket i is dominated, or occurs before. -/
def Dom (c : List Buck) (i : Nat) : Prop := ∃ x, c[i]? = some x ∧ ((∃ k : Nat, k < i ∧ c[k]? = some x) ∨ ∃ (k : Nat) (y : Buck), c[k]? = some y ∧ y ≠ x ∧ y.le x)
/-- The list that Norm has after i buckets. -/
structure NrmI (c : List Buck) (i : Nat) (out : List Buck) : Prop where
  o : out.Pairwise Buck.bef
  s : ∀ x ∈ out, ∃ j : Nat, j < i ∧ c[j]? = some x ∧ ¬ Dom c j
  a : ∀ (j : Nat) (x : Buck), j < i → c[j]? = some x → ¬ Dom c j → x ∈ out
theorem NrmI.zero (c : List Buck) : NrmI c 0 [] := ⟨.nil, fun _ h => absurd h List.not_mem_nil, fun _ _ h => absurd h (Nat.not_lt_zero _)⟩
theorem NrmI.skip {c : List Buck} {i : Nat} {out : List Buck} (h : NrmI c i out) (hd : Dom c i) : NrmI c (i + 1) out :=
  ⟨h.o, fun x hx => by obtain ⟨j, h1, h2⟩ := h.s x hx; exact ⟨j, by omega, h2⟩, fun j x h1 h2 h3 => by
    by_cases e : j = i
    · subst e; exact absurd hd h3
    · exact h.a j x (by omega) h2 h3⟩
theorem NrmI.cmp {c : List Buck} {i : Nat} {out : List Buck} (h : NrmI c i out) {x : Buck} (hx : c[i]? = some x) (hd : ¬ Dom c i) {y : Buck} (hy : y ∈ out) : (y.b ≤ x.b → y.bef x) ∧ (x.b < y.b → x.bef y) := by
  obtain ⟨j, hj, hjy, hjd⟩ := h.s y hy
  have hne : y ≠ x := fun e => hd ⟨x, hx, .inl ⟨j, hj, e ▸ hjy⟩⟩
  have h1 : ¬ y.le x := fun e => hd ⟨x, hx, .inr ⟨j, y, hjy, hne, e⟩⟩
  have h2 : ¬ x.le y := fun e => hjd ⟨y, hjy, .inr ⟨i, x, hx, hne.symm, e⟩⟩
  constructor
  · intro hb
    have hr : x.r < y.r := Rat.not_le.1 fun k => h1 ⟨hb, k⟩
    refine ⟨?_, hr⟩
    rcases Rat.le_iff_lt_or_eq.1 hb with k | k
    · exact k
    · exact absurd ⟨k ▸ Rat.le_refl, Rat.le_of_lt hr⟩ h2
  · intro hb
    refine ⟨hb, Rat.not_le.1 fun k => h2 ⟨Rat.le_of_lt hb, k⟩⟩
theorem pw_take_drop {L : List Buck} {x : Buck} (at' : Nat) (h : L.Pairwise Buck.bef) (h1 : ∀ y ∈ L.take at', y.bef x) (h2 : ∀ y ∈ L.drop at', x.bef y) : (L.take at' ++ [x] ++ L.drop at').Pairwise Buck.bef := by
  rw [List.pairwise_append]
  refine ⟨?_, h.sublist (List.drop_sublist _ _), ?_⟩
  · rw [List.pairwise_append]
    refine ⟨h.sublist (List.take_sublist _ _), List.pairwise_singleton _ _, fun y hy z hz => ?_⟩
    simp only [List.mem_singleton] at hz
    subst hz
    exact h1 y hy
  · intro y hy z hz
    rcases List.mem_append.1 hy with hy | hy
    · have := h1 y hy
      exact Buck.bef_trans this (h2 z hz)
    · simp only [List.mem_singleton] at hy
      subst hy
      exact h2 z hz
theorem mem_mid {α : Type} {L : List α} {x y : α} (n : Nat) : y ∈ L.take n ++ [x] ++ L.drop n ↔ y = x ∨ y ∈ L := by
  have : y ∈ L ↔ y ∈ L.take n ++ L.drop n := by rw [List.take_append_drop]
  rw [this]
  simp only [List.mem_append, List.mem_singleton]
  constructor
  · rintro ((h | h) | h)
    · exact .inr (.inl h)
    · exact .inl h
    · exact .inr (.inr h)
  · rintro (h | h | h)
    · exact .inl (.inr h)
    · exact .inl (.inl h)
    · exact .inr h
theorem NrmI.put {c : List Buck} {i : Nat} {out : List Buck} (h : NrmI c i out) {x : Buck} (hx : c[i]? = some x) (hd : ¬ Dom c i) (n : Nat) (h1 : ∀ y ∈ out.take n, y.b ≤ x.b) (h2 : ∀ y ∈ out.drop n, x.b < y.b) : NrmI c (i + 1) (out.take n ++ [x] ++ out.drop n) := by
  refine ⟨pw_take_drop n h.o (fun y hy => (h.cmp hx hd (List.mem_of_mem_take hy)).1 (h1 y hy)) (fun y hy => (h.cmp hx hd (List.mem_of_mem_drop hy)).2 (h2 y hy)), fun y hy => ?_, fun j y h3 h4 h5 => ?_⟩
  · rcases (mem_mid n).1 hy with e | hy
    · exact ⟨i, by omega, by rw [e]; exact hx, hd⟩
    · obtain ⟨j, k1, k2⟩ := h.s y hy
      exact ⟨j, by omega, k2⟩
  · rw [mem_mid]
    by_cases e : j = i
    · subst e
      rw [h4] at hx
      exact .inl (Option.some.inj hx)
    · exact .inr (h.a j y (by omega) h4 h5)
/-- In an ordered list the first n are at most x if the last of them is. -/
theorem take_le {out : List Buck} (h : out.Pairwise Buck.bef) {n : Nat} {y x : Buck} (hy : out[n]? = some y) (hle : y.b ≤ x.b) : ∀ z ∈ out.take (n + 1), z.b ≤ x.b := by
  intro z hz
  rw [take_succ' hy, List.mem_append] at hz
  rcases hz with hz | hz
  · have hs : out = out.take n ++ out.drop n := (List.take_append_drop _ _).symm
    have hyd : y ∈ out.drop n := by
      rw [List.mem_iff_getElem?]
      exact ⟨0, by rw [List.getElem?_drop]; simpa using hy⟩
    rw [hs, List.pairwise_append] at h
    exact Rat.le_trans (Rat.le_of_lt (h.2.2 z hz y hyd).1) hle
  · simp only [List.mem_singleton] at hz
    subst hz
    exact hle
theorem first_at {c : List Buck} {x : Buck} (h : x ∈ c) : ∃ k : Nat, c[k]? = some x ∧ ∀ j, j < k → c[j]? ≠ some x := by
  induction c with
  | nil => cases h
  | cons y c ih =>
    by_cases e : y = x
    · exact ⟨0, by rw [e]; rfl, fun j hj => absurd hj (Nat.not_lt_zero _)⟩
    · rcases List.mem_cons.1 h with k | k
      · exact absurd k.symm e
      · obtain ⟨k, h1, h2⟩ := ih k
        refine ⟨k + 1, by simpa using h1, fun j hj => ?_⟩
        cases j with
        | zero => simpa using e
        | succ j => simpa using h2 j (by omega)
/-- What is left is the normal form. -/
theorem NrmI.done {c : List Buck} {out : List Buck} (h : NrmI c c.length out) : out = normL c := by
  refine (nf_uniq ⟨h.o, fun x hx => ?_, fun x hx => ?_⟩).symm
  · obtain ⟨j, _, hj, _⟩ := h.s x hx
    exact List.mem_of_getElem? hj
  · have hN := normL_nf c
    obtain ⟨y, hy, hyx⟩ := hN.c x hx
    obtain ⟨k, hk, hkf⟩ := first_at (hN.s y hy)
    refine ⟨y, h.a k y (List.getElem?_eq_some_iff.1 hk).1 hk ?_, hyx⟩
    rintro ⟨y', hy', hd⟩
    rw [hk] at hy'
    cases hy'
    rcases hd with ⟨j, hj, hjy⟩ | ⟨j, z, hjz, hne, hle⟩
    · exact hkf j hj hjy
    · obtain ⟨m, hm, hmz⟩ := hN.c z (List.mem_of_getElem? hjz)
      have e := pw_le hN.o hm hy (Buck.le_trans hmz hle)
      subst e
      exact hne (le_anti hle hmz)

/-- A list of points that increases. -/
abbrev Inc (l : List Pt) : Prop := l.Pairwise fun x y => x.q < y.q
theorem inc_ext : ∀ {L M : List Pt}, Inc L → Inc M → (∀ x, x ∈ L ↔ x ∈ M) → L = M := by
  intro L
  induction L with
  | nil =>
    intro M _ _ h
    cases M with
    | nil => rfl
    | cons y M => exact absurd ((h y).2 (by simp)) List.not_mem_nil
  | cons x L ih =>
    intro M hL hM h
    cases M with
    | nil => exact absurd ((h x).1 (by simp)) List.not_mem_nil
    | cons y M =>
      simp only [Inc, List.pairwise_cons] at hL hM
      have hxy : x = y := by
        rcases List.mem_cons.1 ((h x).1 (by simp)) with e | hx
        · exact e
        · rcases List.mem_cons.1 ((h y).2 (by simp)) with e | hy
          · exact e.symm
          · exact absurd (lt_tr' (hM.1 x hx) (hL.1 y hy)) Rat.lt_irrefl
      subst hxy
      rw [ih hL.2 hM.2 fun z => ?_]
      constructor
      · intro hz
        rcases List.mem_cons.1 ((h z).1 (List.mem_cons_of_mem _ hz)) with e | hz'
        · subst e; exact absurd (hL.1 _ hz) Rat.lt_irrefl
        · exact hz'
      · intro hz
        rcases List.mem_cons.1 ((h z).2 (List.mem_cons_of_mem _ hz)) with e | hz'
        · subst e; exact absurd (hM.1 _ hz) Rat.lt_irrefl
        · exact hz'
theorem inc_take_le {L : List Pt} (h : Inc L) {n : Nat} {y x : Pt} (hy : L[n]? = some y) (hle : y.q ≤ x.q) : ∀ z ∈ L.take (n + 1), z.q ≤ x.q := by
  intro z hz
  rw [take_succ' hy, List.mem_append] at hz
  rcases hz with hz | hz
  · have hs : L = L.take n ++ L.drop n := (List.take_append_drop _ _).symm
    have hyd : y ∈ L.drop n := by
      rw [List.mem_iff_getElem?]
      exact ⟨0, by rw [List.getElem?_drop]; simpa using hy⟩
    rw [hs] at h
    simp only [Inc, List.pairwise_append] at h
    exact Rat.le_trans (Rat.le_of_lt (h.2.2 z hz y hyd)) hle
  · simp only [List.mem_singleton] at hz
    subst hz
    exact hle
theorem inc_put {L : List Pt} {x : Pt} (n : Nat) (h : Inc L) (h1 : ∀ y ∈ L.take n, y.q < x.q) (h2 : ∀ y ∈ L.drop n, x.q < y.q) : Inc (L.take n ++ [x] ++ L.drop n) := by
  unfold Inc
  rw [List.pairwise_append]
  refine ⟨?_, h.sublist (List.drop_sublist _ _), ?_⟩
  · rw [List.pairwise_append]
    refine ⟨h.sublist (List.take_sublist _ _), List.pairwise_singleton _ _, fun y hy z hz => ?_⟩
    simp only [List.mem_singleton] at hz
    subst hz
    exact h1 y hy
  · intro y hy z hz
    rcases List.mem_append.1 hy with hy | hy
    · exact lt_tr' (h1 y hy) (h2 z hz)
    · simp only [List.mem_singleton] at hy
      subst hy
      exact h2 z hz
/-- One more number in an increasing list. -/
def insP (L : List Pt) (x : Pt) (M : List Pt) : Prop := Inc M ∧ ∀ z, z ∈ M ↔ z = x ∨ z ∈ L
theorem insP_same {L : List Pt} {x : Pt} (h : Inc L) (hx : x ∈ L) : insP L x L := ⟨h, fun z => ⟨.inr, fun k => by rcases k with k | k; subst k; exact hx; exact k⟩⟩
theorem insP_put {L : List Pt} {x : Pt} (n : Nat) (h : Inc L) (h1 : ∀ y ∈ L.take n, y.q < x.q) (h2 : ∀ y ∈ L.drop n, x.q < y.q) : insP L x (L.take n ++ [x] ++ L.drop n) := ⟨inc_put n h h1 h2, fun _ => mem_mid n⟩
end Go.Proofs.YtaanhddgmiggfaaGreat.Ref
