/- Tokens lie in the source one after the other, and written anew they are found again: plain mathematics. -/
import Derived.Test.YthjpcafnbniafaaSplitM
import Derived.Test.YthjpcafnbniafaaJoin
namespace Go.Proofs.Ythjpcafnbniafaa

/-- Blanks and comments alone (f: within a comment). -/
def emp : Bool → List (BitVec 8) → Bool
  | _, [] => true
  | f, c :: t => if c = 10#8 then emp false t else if f then emp true t else if c = 35#8 then emp true t else if c = 32#8 ∨ c = 9#8 ∨ c = 13#8 then emp false t else false
theorem blank_or {c : BitVec 8} (h : isBlank c = true) : c = 10#8 ∨ (c ≠ 10#8 ∧ c ≠ 35#8 ∧ (c = 32#8 ∨ c = 9#8 ∨ c = 13#8)) := by
  unfold isBlank at h
  simp only [Bool.or_eq_true, beq_iff_eq] at h
  rcases h with ((h | h) | h) | h <;> subst h <;> decide
theorem emp_skp : ∀ (f : Bool) (l : List (BitVec 8)), emp f (l.take (skp f l)) = true
  | _, [] => by simp [emp]
  | false, c :: t => by
    cases hc : isBlank c with
    | true =>
      rw [skp_blank hc, List.take_succ_cons]
      have ih := emp_skp false t
      rcases blank_or hc with h | ⟨h1, h2, h3⟩
      · unfold emp; rw [if_pos h]; exact ih
      · unfold emp; rw [if_neg h1, if_neg (by decide), if_neg h2, if_pos h3]; exact ih
    | false =>
      by_cases h3 : c = 35#8
      · subst h3
        rw [skp_hash', List.take_succ_cons]
        unfold emp; rw [if_neg (by decide), if_neg (by decide), if_pos rfl]; exact emp_skp true t
      · rw [skp_none hc h3]; simp [emp]
  | true, c :: t => by
    rw [skp, List.take_succ_cons]
    have ih := emp_skp (notNl c) t
    by_cases h : c = 10#8
    · subst h
      unfold emp; rw [if_pos rfl]; exact ih
    · have hn : notNl c = true := by simpa [notNl] using h
      rw [hn] at ih ⊢
      unfold emp; rw [if_neg h, if_pos rfl]; exact ih

/-- A token of its form. -/
def Wf (x : Tk) : Prop := ∃ c r, x.s = c :: r ∧ x.k = kd c ∧ ((x.k = 1 ∨ x.k = 2) → ∀ d ∈ r, isIn d = true) ∧ (x.k = 0 ∨ x.k = 3 → r = [])
theorem wf_at (c : BitVec 8) (t : List (BitVec 8)) (o : Nat) : Wf ⟨kd c, c :: t.take (more c t), o⟩ := by
  refine ⟨c, _, rfl, rfl, ?_, ?_⟩
  · intro h d hd
    have hm : more c t = cnt isIn t := by
      rcases kd_more c t with ⟨_, h2⟩ | ⟨h1, _⟩
      · exact h2
      · have h' : kd c = 1 ∨ kd c = 2 := h
        omega
    rw [hm] at hd
    exact cnt_all t d hd
  · intro h
    have hm : more c t = 0 := by
      rcases kd_more c t with ⟨h1, _⟩ | ⟨_, h2⟩
      · have h' : kd c = 0 ∨ kd c = 3 := h
        omega
      · exact h2
    rw [hm]; rfl
theorem scan_wf : ∀ (n p : Nat) (l : List (BitVec 8)), l.length ≤ n → ∀ x ∈ scan p l, Wf x := by
  intro n
  induction n with
  | zero =>
    intro p l h x hx
    rw [List.eq_nil_of_length_eq_zero (Nat.le_zero.1 h)] at hx
    cases hx
  | succ n ih =>
    intro p l h x hx
    cases hd : l.drop (skp false l) with
    | nil => rw [scan_end hd] at hx; cases hx
    | cons c t =>
      have hlen : (l.drop (skp false l)).length = t.length + 1 := by rw [hd]; rfl
      rw [List.length_drop] at hlen
      rw [scan_cons hd] at hx
      rcases List.mem_cons.1 hx with rfl | hx
      · exact wf_at c t _
      · exact ih _ _ (by rw [List.length_drop]; omega) x hx
/-- Where the next token lies. -/
theorem scan_step {l : List (BitVec 8)} {fr : Nat} {x : Tk} {M : List Tk} (h : scan fr (l.drop fr) = x :: M) :
    fr ≤ x.o ∧ x.o + x.s.length ≤ l.length ∧ (l.drop x.o).take x.s.length = x.s ∧ emp false ((l.drop fr).take (x.o - fr)) = true ∧ scan (x.o + x.s.length) (l.drop (x.o + x.s.length)) = M := by
  cases hd : (l.drop fr).drop (skp false (l.drop fr)) with
  | nil => rw [scan_end hd] at h; cases h
  | cons c t =>
    have hlen : ((l.drop fr).drop (skp false (l.drop fr))).length = t.length + 1 := by rw [hd]; rfl
    rw [List.length_drop, List.length_drop] at hlen
    have hm := more_le c t
    rw [scan_cons hd] at h
    have he := emp_skp false (l.drop fr)
    obtain ⟨rfl, rfl⟩ := List.cons.inj h
    rw [List.drop_drop] at hd
    have hd2 : l.drop (fr + skp false (l.drop fr) + 1) = t := by
      rw [← List.drop_drop, hd]; rfl
    dsimp only
    refine ⟨by omega, by simp; omega, ?_, ?_, ?_⟩
    · rw [hd, List.length_cons, List.take_succ_cons, List.length_take, Nat.min_eq_left hm]
    · rw [show fr + skp false (l.drop fr) - fr = skp false (l.drop fr) by omega]; exact he
    · rw [List.length_cons, List.length_take, Nat.min_eq_left hm, show fr + skp false (l.drop fr) + (more c t + 1) = fr + skp false (l.drop fr) + 1 + more c t by omega, ← List.drop_drop, hd2]
theorem scan_fin {l : List (BitVec 8)} {fr : Nat} (h : scan fr (l.drop fr) = []) : emp false (l.drop fr) = true := by
  cases hd : (l.drop fr).drop (skp false (l.drop fr)) with
  | nil =>
    have he := emp_skp false (l.drop fr)
    have : (l.drop fr).length ≤ skp false (l.drop fr) := by
      have h2 : ((l.drop fr).drop (skp false (l.drop fr))).length = 0 := by rw [hd]; rfl
      rw [List.length_drop] at h2; omega
    rwa [List.take_of_length_le this] at he
  | cons c t => rw [scan_cons hd] at h; cases h

theorem kd_plain : ∀ c : BitVec 8, kd c ≠ 0 → isBlank c = false ∧ c ≠ 35#8 := by decide +kernel
theorem kd_cls : ∀ c : BitVec 8, ((kd c = 1 ∨ kd c = 2) → (isLet c || isDig c) = true) ∧ (kd c = 3 → (isLet c || isDig c) = false) := by decide +kernel
/-- A token that stands at the beginning is found. -/
theorem scan_word {x : Tk} (hx : Wf x) (hk : x.k ≠ 0) (p : Nat) (u : List (BitVec 8)) (hu : ∀ c t, u = c :: t → isIn c = false) : scan p (x.s ++ u) = ⟨x.k, x.s, p⟩ :: scan (p + x.s.length) u := by
  obtain ⟨c, r, h1, h2, h3, h4⟩ := hx
  rw [h2] at hk h3 h4
  obtain ⟨b1, b2⟩ := kd_plain c hk
  obtain ⟨c1, c2⟩ := kd_cls c
  have hs : skp false (c :: (r ++ u)) = 0 := skp_none b1 b2
  have hm : more c (r ++ u) = r.length := by
    unfold more
    rcases (by have := kd_le c; omega : (kd c = 1 ∨ kd c = 2) ∨ kd c = 3) with h | h
    · rw [if_pos (c1 h)]; exact cnt_app (h3 h) hu
    · rw [if_neg (by rw [c2 h]; decide), h4 (.inr h)]; rfl
  rw [h1, h2, List.cons_append, scan_cons (c := c) (t := r ++ u) (by rw [hs]; rfl), hs, hm, List.take_left, List.drop_left]
  simp only [Nat.add_zero, List.length_cons]
  congr 2
  omega
theorem scan_blank {c : BitVec 8} (h : isBlank c = true) (p : Nat) (t : List (BitVec 8)) : scan p (c :: t) = scan (p + 1) t := by
  rw [scan_skip p (c :: t), skp_blank h, List.drop_succ_cons, scan_skip (p + 1) t]
  congr 1
  omega
def flatS (L : List Tk) : List (BitVec 8) := L.flatMap fun x => 32#8 :: x.s
theorem flatS_head (L : List Tk) : ∀ c t, flatS L = c :: t → isIn c = false := by
  intro c t h
  cases L with
  | nil => cases h
  | cons x L =>
    have : c = 32#8 := by
      simp only [flatS, List.flatMap_cons, List.cons_append] at h
      exact (List.cons.inj h).1.symm
    subst this; decide
def ksT (x : Tk) : Nat × List (BitVec 8) := (x.k, x.s)
theorem scan_flat : ∀ (L : List Tk) (p : Nat), (∀ x ∈ L, Wf x ∧ x.k ≠ 0) → (scan p (flatS L)).map ksT = L.map ksT
  | [], _, _ => rfl
  | x :: L, p, h => by
    obtain ⟨h1, h2⟩ := h x (List.mem_cons_self ..)
    have e : flatS (x :: L) = 32#8 :: (x.s ++ flatS L) := rfl
    rw [e, scan_blank (by decide), scan_word h1 h2 _ _ (flatS_head L), List.map_cons, List.map_cons, scan_flat L _ fun y hy => h y (List.mem_cons_of_mem _ hy)]
    rfl
theorem jn_flat (L : List Tk) : jn (L.map (·.s)) = (flatS L).drop 1 := by
  unfold jn flatS
  rw [List.flatMap_map]
theorem scan_jn (L : List Tk) (p : Nat) (h : ∀ x ∈ L, Wf x ∧ x.k ≠ 0) : (scan p (jn (L.map (·.s)))).map ksT = L.map ksT := by
  cases L with
  | nil => rfl
  | cons x L =>
    obtain ⟨h1, h2⟩ := h x (List.mem_cons_self ..)
    rw [jn_flat]
    have e : (flatS (x :: L)).drop 1 = x.s ++ flatS L := rfl
    rw [e, scan_word h1 h2 _ _ (flatS_head L), List.map_cons, List.map_cons, scan_flat L _ fun y hy => h y (List.mem_cons_of_mem _ hy)]
    rfl
theorem flat_len : ∀ (n p : Nat) (l : List (BitVec 8)), l.length ≤ n → (flatS (scan p l)).length ≤ 2 * l.length := by
  intro n
  induction n with
  | zero =>
    intro p l h
    rw [List.eq_nil_of_length_eq_zero (Nat.le_zero.1 h)]; simp [scan, scanF, flatS]
  | succ n ih =>
    intro p l h
    cases hd : l.drop (skp false l) with
    | nil => rw [scan_end hd]; simp [flatS]
    | cons c t =>
      have hlen : (l.drop (skp false l)).length = t.length + 1 := by rw [hd]; rfl
      rw [List.length_drop] at hlen
      have hm := more_le c t
      rw [scan_cons hd]
      have := ih (p + skp false l + 1 + more c t) (t.drop (more c t)) (by rw [List.length_drop]; omega)
      rw [List.length_drop] at this
      have e : ∀ (x : Tk) L, (flatS (x :: L)).length = x.s.length + 1 + (flatS L).length := fun x L => by
        show (32#8 :: (x.s ++ flatS L)).length = _
        simp; omega
      rw [e, List.length_cons, List.length_take, Nat.min_eq_left hm]
      omega
theorem bad_ks {x y : Tk} (h : ksT x = ksT y) : bad x = bad y := by
  simp only [ksT, Prod.mk.injEq] at h
  unfold bad tokE
  rw [h.1, h.2]
theorem find_ks : ∀ {L M : List Tk}, L.map ksT = M.map ksT → M.find? bad = none → L.find? bad = none
  | [], _, _, _ => rfl
  | x :: L, [], h, _ => by cases h
  | x :: L, y :: M, h, hf => by
    simp only [List.map_cons, List.cons.injEq] at h
    rw [List.find?_cons] at hf ⊢
    rw [bad_ks h.1]
    cases hb : bad y with
    | true => rw [hb] at hf; cases hf
    | false => rw [hb] at hf; exact find_ks h.2 hf
theorem good_k {x : Tk} (h : bad x = false) : x.k ≠ 0 := by
  intro e
  unfold bad tokE at h
  rw [if_pos e] at h
  cases h
/-- What the second call of LexBack answers. -/
theorem lex_back {l : List (BitVec 8)} (h : l.length ≤ 4000) (hf : (scan 0 l).find? bad = none) :
    lexE (jn ((scan 0 l).map (·.s))) = 0 ∧ (lexT (jn ((scan 0 l).map (·.s)))).map ksT = (scan 0 l).map ksT ∧ (jn ((scan 0 l).map (·.s))).length ≤ 8000 := by
  have hw : ∀ x ∈ scan 0 l, Wf x ∧ x.k ≠ 0 := fun x hx => ⟨scan_wf l.length 0 l (Nat.le_refl _) x hx, good_k (by have := List.find?_eq_none.1 hf x hx; simpa using this)⟩
  have hs := scan_jn (scan 0 l) 0 hw
  have hlen : (jn ((scan 0 l).map (·.s))).length ≤ 8000 := by
    rw [jn_flat, List.length_drop]
    have := flat_len l.length 0 l (Nat.le_refl _)
    omega
  obtain ⟨h1, h2, h3⟩ := lexT_ok (l := jn ((scan 0 l).map (·.s))) (by omega) (find_ks hs hf)
  exact ⟨h3, by rw [h1]; exact hs, hlen⟩
/-- An offset and an error, where there is one. -/
theorem lex_err {l : List (BitVec 8)} (h : l.length ≤ 65536) (he : lexE l ≠ 0) : lexT l = [] ∧ lexO l < l.length ∧ (lexE l = 70 ∨ lexE l = 71 ∨ lexE l = 72) := by
  cases hf : (scan 0 l).find? bad with
  | none => exact absurd (lexT_ok h hf).2.2 he
  | some x =>
    obtain ⟨h1, h2, h3, h4⟩ := lexT_bad h hf
    have hm := List.mem_of_find?_eq_some hf
    obtain ⟨c, r, e1, _⟩ := scan_wf l.length 0 l (Nat.le_refl _) x hm
    have := scan_off l.length 0 l (Nat.le_refl _) x hm
    rw [e1, List.length_cons] at this
    refine ⟨h1, by rw [h2]; omega, ?_⟩
    rw [h3]
    unfold tokE at h4 ⊢
    split
    · exact .inl rfl
    · split
      · exact .inr (.inl rfl)
      · split
        · exact .inr (.inr rfl)
        · rename_i q1 q2 q3
          rw [if_neg q1, if_neg q2, if_neg q3] at h4
          exact absurd rfl h4
end Go.Proofs.Ythjpcafnbniafaa
