/- The forms of tokens: plain mathematics. -/
import Derived.Test.YthjpcafnbniafaaBackM
import Derived.Test.YthjpcafnbniafaaNum
namespace Go.Proofs.Ythjpcafnbniafaa
set_option linter.unusedVariables false

/-- Words and numbers that follow each other do not touch. -/
theorem scan_apart : ∀ (n p : Nat) (l : List (BitVec 8)), l.length ≤ n → ∀ (i : Nat) (x y : Tk), (scan p l)[i]? = some x → (scan p l)[i + 1]? = some y → (x.k = 1 ∨ x.k = 2) → (y.k = 1 ∨ y.k = 2) → x.o + x.s.length ≠ y.o := by
  intro n
  induction n with
  | zero =>
    intro p l h i x y hx
    rw [List.eq_nil_of_length_eq_zero (Nat.le_zero.1 h)] at hx
    simp [scan, scanF] at hx
  | succ n ih =>
    intro p l h i x y hx hy kx ky
    cases hd : l.drop (skp false l) with
    | nil => rw [scan_end hd] at hx; simp at hx
    | cons c t =>
      have hlen : (l.drop (skp false l)).length = t.length + 1 := by rw [hd]; rfl
      rw [List.length_drop] at hlen
      have hm := more_le c t
      rw [scan_cons hd] at hx hy
      cases i with
      | succ i => exact ih (p + skp false l + 1 + more c t) (t.drop (more c t)) (by rw [List.length_drop]; omega) i x y (by simpa using hx) (by simpa using hy) kx ky
      | zero =>
        simp only [List.getElem?_cons_zero, Option.some.injEq, Nat.zero_add, List.getElem?_cons_succ] at hx hy
        subst hx
        cases hd2 : (t.drop (more c t)).drop (skp false (t.drop (more c t))) with
        | nil => rw [scan_end hd2] at hy; simp at hy
        | cons c2 t2 =>
          rw [scan_cons hd2] at hy
          simp only [List.getElem?_cons_zero, Option.some.injEq] at hy
          subst hy
          intro he
          have he2 : p + skp false l + (min (more c t) t.length + 1) = p + skp false l + 1 + more c t + skp false (t.drop (more c t)) := by
            have := he
            simp only [List.length_cons, List.length_take] at this
            exact this
          have hs0 : skp false (t.drop (more c t)) = 0 := by omega
          rw [hs0, List.drop_zero] at hd2
          have hmc : more c t = cnt isIn t := by
            rcases kd_more c t with ⟨_, h2⟩ | ⟨h1, _⟩
            · exact h2
            · have h' : kd c = 1 ∨ kd c = 2 := kx
              omega
          rw [hmc] at hd2
          have hin := cnt_stop isIn t c2 t2 hd2
          have hc := (kd_cls c2).1 ky
          unfold isIn at hin
          rw [hc] at hin
          cases hin

theorem numF_dig : ∀ (s : List (BitVec 8)) (v : Nat), v ≤ 1073741824 → numF v s = true → (∀ d ∈ s, isDig d = true) ∧ valF v s ≤ 1073741824 ∧ v * 10 ^ s.length ≤ 1073741824
  | [], v, hv, _ => ⟨(fun d h => by cases h), hv, by simpa using hv⟩
  | c :: s, v, hv, h => by
    unfold numF at h
    simp only [Bool.and_eq_true, decide_eq_true_eq] at h
    obtain ⟨h1, h2, h3⟩ := h
    obtain ⟨a1, a2, a3⟩ := numF_dig s _ h2 h3
    refine ⟨fun d hd => ?_, a2, ?_⟩
    · rcases List.mem_cons.1 hd with rfl | hd
      · exact h1
      · exact a1 d hd
    · have h4 : v * 10 ^ (s.length + 1) ≤ (10 * v + (c.toNat - 48)) * 10 ^ s.length := by
        rw [Nat.pow_succ, Nat.mul_comm (10 ^ s.length) 10, ← Nat.mul_assoc, Nat.mul_comm v 10]
        exact Nat.mul_le_mul_right _ (by omega)
      exact Nat.le_trans h4 a3
theorem val_lt : ∀ (a b : List (BitVec 8)) (va vb : Nat), a.length = b.length → (∀ d ∈ a, isDig d = true) → va < vb → valF va a < valF vb b
  | [], [], va, vb, _, _, h => h
  | [], _ :: _, _, _, h, _, _ => by simp at h
  | _ :: _, [], _, _, h, _, _ => by simp at h
  | x :: a, y :: b, va, vb, hl, hd, h => by
    have hx := isDig_ge (hd x (List.mem_cons_self ..))
    exact val_lt a b _ _ (by simpa using hl) (fun d h => hd d (List.mem_cons_of_mem _ h)) (by omega)
def U (l : List (BitVec 8)) : List UInt8 := l.map fun b => UInt8.ofBitVec b
theorem u8_lt (x y : BitVec 8) : (UInt8.ofBitVec x < UInt8.ofBitVec y) ↔ x.toNat < y.toNat := by
  rw [UInt8.lt_iff_toBitVec_lt]; exact BitVec.lt_def
theorem less_val : ∀ (a b : List (BitVec 8)) (v : Nat), a.length = b.length → (∀ d ∈ a, isDig d = true) → (∀ d ∈ b, isDig d = true) → valF v a ≤ valF v b → (Op.bytesLess (U a) (U b) || (U a == U b)) = true
  | [], [], _, _, _, _, _ => by simp [U]
  | [], _ :: _, _, h, _, _, _ => by simp at h
  | _ :: _, [], _, h, _, _, _ => by simp at h
  | x :: a, y :: b, v, hl, ha, hb, h => by
    have hx := isDig_ge (ha x (List.mem_cons_self ..))
    have hy := isDig_ge (hb y (List.mem_cons_self ..))
    have e : ∀ (z : BitVec 8) m, U (z :: m) = UInt8.ofBitVec z :: U m := fun _ _ => rfl
    rw [e, e, Op.bytesLess]
    rcases Nat.lt_trichotomy x.toNat y.toNat with h1 | h1 | h1
    · have : decide (UInt8.ofBitVec x < UInt8.ofBitVec y) = true := by rw [decide_eq_true_iff, u8_lt]; exact h1
      rw [this]; rfl
    · obtain rfl := BitVec.eq_of_toNat_eq h1
      have ih := less_val a b (10 * v + (x.toNat - 48)) (by simpa using hl) (fun d h => ha d (List.mem_cons_of_mem _ h)) (fun d h => hb d (List.mem_cons_of_mem _ h)) h
      rw [Bool.or_eq_true] at ih ⊢
      rcases ih with ih | ih
      · left; simp [ih]
      · right
        rw [beq_iff_eq] at ih ⊢
        rw [ih]
    · have := val_lt b a (10 * v + (y.toNat - 48)) (10 * v + (x.toNat - 48)) (by simpa using hl.symm) (fun d h => hb d (List.mem_cons_of_mem _ h)) (by omega)
      have h' : valF (10 * v + (x.toNat - 48)) a ≤ valF (10 * v + (y.toNat - 48)) b := h
      omega
/-- What a number's text is. -/
theorem num_form {s : List (BitVec 8)} (h : numOk s = true) : (∀ d ∈ s, isDig d = true) ∧ ∀ c r, s = c :: r → (c = 48#8 ∧ r = [] ∨ c ≠ 48#8 ∧ s.length < 10 ∨ c ≠ 48#8 ∧ s.length = 10 ∧ (Op.bytesLess (U s) (U [49#8, 48#8, 55#8, 51#8, 55#8, 52#8, 49#8, 56#8, 50#8, 52#8]) || (U s == U [49#8, 48#8, 55#8, 51#8, 55#8, 52#8, 49#8, 56#8, 50#8, 52#8])) = true) := by
  unfold numOk at h
  rw [Bool.and_eq_true] at h
  obtain ⟨h1, h2⟩ := h
  obtain ⟨a1, a2, -⟩ := numF_dig s 0 (by decide) h2
  refine ⟨a1, fun c r e => ?_⟩
  subst e
  by_cases hc : c = 48#8
  · left
    refine ⟨hc, ?_⟩
    subst hc
    cases r with
    | nil => rfl
    | cons d r => simp at h1
  · right
    have hc2 := isDig_ge (a1 c (List.mem_cons_self ..))
    have hne : c.toNat ≠ 48 := fun e => hc (BitVec.eq_of_toNat_eq e)
    unfold numF at h2
    simp only [Bool.and_eq_true, decide_eq_true_eq] at h2
    obtain ⟨-, b3⟩ := h2
    obtain ⟨-, -, c3⟩ := numF_dig r _ b3.1 b3.2
    have hr : r.length ≤ 9 := by
      rcases Nat.lt_or_ge 9 r.length with h9 | h9
      · have h10 : 10 ^ 10 ≤ 10 ^ r.length := Nat.pow_le_pow_right (by decide) h9
        have h11 : 1 * 10 ^ r.length ≤ (10 * 0 + (c.toNat - 48)) * 10 ^ r.length := Nat.mul_le_mul_right _ (by omega)
        have h12 : (10 : Nat) ^ 10 = 10000000000 := by decide
        omega
      · exact h9
    rcases Nat.lt_or_ge r.length 9 with h9 | h9
    · left; exact ⟨hc, by simp; omega⟩
    · right
      refine ⟨hc, by simp; omega, less_val _ _ 0 (by simp; omega) a1 (by decide) ?_⟩
      exact Nat.le_trans a2 (by decide)
/-- The tokens of a source. -/
theorem tok_form {l : List (BitVec 8)} (hl : l.length ≤ 65536) {x : Tk} (hx : x ∈ lexT l) :
    ∃ c r, x.s = c :: r ∧ ((x.k = 3 ∧ r = [] ∧ isSgn c = true) ∨ (x.k = 1 ∧ isLet c = true ∧ (∀ d ∈ r, isIn d = true) ∧ x.s.length ≤ 24) ∨ (x.k = 2 ∧ numOk x.s = true)) := by
  unfold lexT at hx
  split at hx
  · cases hx
  · rename_i hb
    obtain ⟨c, r, e1, e2, e3, e4⟩ := scan_wf l.length 0 l (Nat.le_refl _) x hx
    have hbad : bad x = false := by
      cases h : bad x with
      | false => rfl
      | true => exact absurd (.inr (List.any_eq_true.2 ⟨x, hx, h⟩)) hb
    have hk0 := good_k hbad
    have hk := kd_le c
    rw [← e2] at hk
    refine ⟨c, r, e1, ?_⟩
    unfold bad tokE at hbad
    rw [if_neg hk0] at hbad
    have hsg : x.k = 3 → isSgn c = true := fun h => by
      rw [e2] at h
      unfold kd at h
      cases h1 : isLet c <;> cases h2 : isDig c <;> cases h3 : isSgn c <;> simp_all
    have hlt : x.k = 1 → isLet c = true := fun h => by
      rw [e2] at h
      unfold kd at h
      cases h1 : isLet c <;> cases h2 : isDig c <;> cases h3 : isSgn c <;> simp_all
    rcases (by omega : x.k = 3 ∨ x.k = 1 ∨ x.k = 2) with h | h | h
    · exact .inl ⟨h, e4 (.inr h), hsg h⟩
    · refine .inr (.inl ⟨h, hlt h, e3 (.inl h), ?_⟩)
      rcases Nat.lt_or_ge 24 x.s.length with h5 | h5
      · rw [if_pos ⟨h, h5⟩] at hbad; cases hbad
      · exact h5
    · refine .inr (.inr ⟨h, ?_⟩)
      cases h5 : numOk x.s with
      | true => rfl
      | false =>
        rw [if_neg (by omega), if_pos ⟨h, h5⟩] at hbad; cases hbad
theorem tok_apart {l : List (BitVec 8)} {i : Nat} {x y : Tk} (hx : (lexT l)[i]? = some x) (hy : (lexT l)[i + 1]? = some y) (kx : x.k = 1 ∨ x.k = 2) (ky : y.k = 1 ∨ y.k = 2) : x.o + x.s.length ≠ y.o := by
  unfold lexT at hx hy
  split at hx
  · simp at hx
  · rename_i hb
    rw [if_neg hb] at hy
    exact scan_apart l.length 0 l (Nat.le_refl _) i x y hx hy kx ky
end Go.Proofs.Ythjpcafnbniafaa
