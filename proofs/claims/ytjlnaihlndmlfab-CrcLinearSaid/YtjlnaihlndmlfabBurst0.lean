/- Bursts: what an error of at most 32 bits does to a sum. Plain mathematics. -/
import Derived.Test.YtjlnaihlndmlfabTrailer
namespace Go.Proofs.Ytjlnaihlndmlfab

/-- A bit as a register. -/
def b2w (b : Bool) : BitVec 32 := if b then 1#32 else 0#32
theorem b2w_xor (a b : Bool) : b2w (a ^^ b) = b2w a ^^^ b2w b := by cases a <;> cases b <;> decide
/-- The register after k bits. -/
def stB (r : BitVec 32) (e : Nat → Bool) : Nat → BitVec 32
  | 0 => r
  | k + 1 => zb (stB r e k ^^^ b2w (e k))
theorem stB_xor (r s : BitVec 32) (e f : Nat → Bool) : ∀ k, stB (r ^^^ s) (fun i => e i ^^ f i) k = stB r e k ^^^ stB s f k
  | 0 => rfl
  | k + 1 => by
    simp only [stB]
    rw [stB_xor r s e f k, b2w_xor, ← zb_xor]
    congr 1
    ac_rfl
theorem stB_congr {r : BitVec 32} {e f : Nat → Bool} : ∀ {k : Nat}, (∀ i, i < k → e i = f i) → stB r e k = stB r f k
  | 0, _ => rfl
  | k + 1, h => by
    simp only [stB]
    rw [stB_congr (k := k) fun i hi => h i (by omega), h k (by omega)]
theorem stB_add (r : BitVec 32) (e : Nat → Bool) (j : Nat) : ∀ k, stB r e (j + k) = stB (stB r e j) (fun i => e (j + i)) k
  | 0 => rfl
  | k + 1 => by
    show stB r e (j + k + 1) = _
    simp only [stB]
    rw [stB_add r e j k]
theorem stB_false (r : BitVec 32) (e : Nat → Bool) : ∀ k, (∀ i, i < k → e i = false) → stB r e k = it k r
  | 0, _ => rfl
  | k + 1, h => by
    simp only [stB]
    rw [stB_false r e k fun i hi => h i (by omega), h k (by omega), it_snoc]
    simp [b2w]
/-- The low bits of a word, one after the other. -/
theorem stB_word (r x : BitVec 32) : ∀ k, k ≤ 32 → stB r (fun i => x.getLsbD i) k = it k (r ^^^ lowB x k)
  | 0, _ => by simp [stB, it, lowB]
  | k + 1, hk => by
    simp only [stB]
    rw [stB_word r x k (by omega), lowB_succ x k (by omega), ← BitVec.xor_assoc, it_xor (k + 1), it_snoc, zb_xor]
    congr 1
    cases x.getLsbD k
    · simp [b2w, it_zero, zb_zero]
    · have h1 : it k (1#32 <<< k) = 1#32 := by
        rw [it_low k _ fun i hi => by rw [BitVec.getLsbD_shiftLeft]; simp [hi]]
        apply BitVec.eq_of_getLsbD_eq
        intro i hi
        rw [BitVec.getLsbD_ushiftRight, BitVec.getLsbD_shiftLeft, BitVec.getLsbD_one]
        by_cases h0 : i = 0
        · subst h0
          have : k < 32 := by omega
          simp [this]
        · by_cases h2 : k + i < 32 <;> simp [h2, h0, BitVec.getLsbD_one]
      rw [if_pos rfl, it_snoc, h1]
      rfl
theorem lowB_ge (x : BitVec 32) (h : x.getLsbD 0 = true) {k : Nat} (hk : 0 < k) : lowB x k ≠ 0#32 := by
  intro h0
  have := congrArg (fun v : BitVec 32 => v.getLsbD 0) h0
  simp only [lowB, BitVec.getLsbD_and, h, BitVec.getLsbD_ofNat, Nat.testBit_two_pow_sub_one] at this
  simp at this
  omega
theorem stB_ne (x : BitVec 32) (h : x.getLsbD 0 = true) {k : Nat} (hk : 0 < k) : stB 0#32 (fun i => x.getLsbD i) k ≠ 0#32 := by
  by_cases h32 : k ≤ 32
  · rw [stB_word 0#32 x k h32, BitVec.zero_xor]
    exact fun h0 => lowB_ge x h hk (it_ne h0)
  · obtain ⟨j, rfl⟩ : ∃ j, k = 32 + j := ⟨k - 32, by omega⟩
    rw [stB_add, stB_false _ _ j fun i _ => BitVec.getLsbD_of_ge x (32 + i) (by omega), stB_word 0#32 x 32 (Nat.le_refl _), BitVec.zero_xor]
    exact fun h0 => lowB_ge x h (by decide) (it_ne (it_ne h0))

/-- Bit k of a list of bytes. -/
def bitAt (l : List (BitVec 8)) (k : Nat) : Bool := (l.getD (k / 8) 0#8).getLsbD (k % 8)
theorem up_bits (r : BitVec 32) (l : List (BitVec 8)) : up r l = stB r (bitAt l) (8 * l.length) := by
  suffices h : ∀ n, ∀ l : List (BitVec 8), l.length = n → up r l = stB r (bitAt l) (8 * l.length) from h _ l rfl
  intro n
  induction n with
  | zero => intro l hl; rw [List.eq_nil_of_length_eq_zero hl]; rfl
  | succ n ih =>
    intro l hl
    have hne : l ≠ [] := by intro h; rw [h] at hl; simp at hl
    obtain ⟨m, b, rfl⟩ : ∃ m b, l = m ++ [b] := ⟨l.dropLast, l.getLast hne, (List.dropLast_concat_getLast hne).symm⟩
    have hm : m.length = n := by simpa using hl
    rw [up_snoc, ih m hm, List.length_append, List.length_singleton, show 8 * (m.length + 1) = 8 * m.length + 8 by omega, stB_add]
    have e1 : stB r (bitAt (m ++ [b])) (8 * m.length) = stB r (bitAt m) (8 * m.length) := stB_congr fun i hi => by
      unfold bitAt
      rw [List.getD_eq_getElem?_getD, List.getD_eq_getElem?_getD, List.getElem?_append_left (by omega)]
    have e2 : stB (stB r (bitAt m) (8 * m.length)) (fun i => bitAt (m ++ [b]) (8 * m.length + i)) 8 = stB (stB r (bitAt m) (8 * m.length)) (fun i => (b.setWidth 32).getLsbD i) 8 := stB_congr fun i hi => by
      unfold bitAt
      rw [show (8 * m.length + i) / 8 = m.length by omega, show (8 * m.length + i) % 8 = i by omega, List.getD_eq_getElem?_getD, List.getElem?_append_right (Nat.le_refl _), Nat.sub_self]
      simp [BitVec.getLsbD_setWidth]
      omega
    rw [e1, e2, stB_word _ _ 8 (by decide)]
    unfold by8
    congr 2
    apply BitVec.eq_of_getLsbD_eq
    intro i hi
    rw [lowB, BitVec.getLsbD_and, BitVec.getLsbD_ofNat, Nat.testBit_two_pow_sub_one, BitVec.getLsbD_setWidth]
    by_cases h8 : i < 8
    · simp [h8, hi]
    · rw [BitVec.getLsbD_of_ge b i (by omega)]; simp

/-- A bit is flipped. -/
def flipBit (l : List (BitVec 8)) (k : Nat) : List (BitVec 8) := if k < 8 * l.length then l.set (k / 8) (l.getD (k / 8) 0#8 ^^^ (1#8 <<< (k % 8))) else l
theorem flipBit_len (l : List (BitVec 8)) (k : Nat) : (flipBit l k).length = l.length := by unfold flipBit; split <;> simp
theorem flipBit_bit (l : List (BitVec 8)) (k j : Nat) (hj : j < 8 * l.length) : bitAt (flipBit l k) j = (bitAt l j ^^ decide (j = k)) := by
  unfold flipBit
  split
  · next hk =>
    unfold bitAt
    rw [List.getD_eq_getElem?_getD, List.getElem?_set]
    by_cases h8 : k / 8 = j / 8
    · rw [if_pos h8, h8]
      rw [if_pos (by omega)]
      simp only [Option.getD_some, BitVec.getLsbD_xor, BitVec.getLsbD_shiftLeft, BitVec.getLsbD_one]
      congr 1
      by_cases hm : j = k
      · subst hm; simp; omega
      · have : ¬ (j % 8 < k % 8 ∨ j % 8 = k % 8) ∨ j % 8 < k % 8 := by omega
        rcases this with h | h
        · have h1 : j % 8 - k % 8 ≠ 0 := by omega
          simp [hm, h1]
        · simp [hm, h]
    · rw [if_neg h8, ← List.getD_eq_getElem?_getD]
      have : j ≠ k := by rintro rfl; exact h8 rfl
      simp [this]
  · next hk =>
    have : j ≠ k := by omega
    simp [this]
/-- The first i bits of a burst. -/
def fl (l : List (BitVec 8)) (at' : Nat) (p : BitVec 32) : Nat → List (BitVec 8)
  | 0 => l
  | i + 1 => if p.getLsbD i then flipBit (fl l at' p i) (at' + i) else fl l at' p i
theorem fl_len (l : List (BitVec 8)) (at' : Nat) (p : BitVec 32) : ∀ i, (fl l at' p i).length = l.length
  | 0 => rfl
  | i + 1 => by
    rw [fl]
    split
    · rw [flipBit_len, fl_len]
    · exact fl_len l at' p i
theorem fl_bit (l : List (BitVec 8)) (at' : Nat) (p : BitVec 32) (j : Nat) (hj : j < 8 * l.length) : ∀ i, bitAt (fl l at' p i) j = (bitAt l j ^^ (decide (at' ≤ j ∧ j < at' + i) && p.getLsbD (j - at')))
  | 0 => by
    have : decide (at' ≤ j ∧ j < at' + 0) = false := decide_eq_false (by omega)
    rw [this]; simp [fl]
  | i + 1 => by
    rw [fl]
    by_cases hp : p.getLsbD i = true
    · rw [if_pos hp, flipBit_bit _ _ _ (by rw [fl_len]; exact hj), fl_bit l at' p j hj i]
      by_cases h : j = at' + i
      · subst h
        rw [decide_eq_false (by omega : ¬ (at' ≤ at' + i ∧ at' + i < at' + i)), decide_eq_true (by omega : at' ≤ at' + i ∧ at' + i < at' + (i + 1)), show at' + i - at' = i by omega, hp]
        simp
      · have e : decide (at' ≤ j ∧ j < at' + i) = decide (at' ≤ j ∧ j < at' + (i + 1)) := by rw [Bool.eq_iff_iff, decide_eq_true_iff, decide_eq_true_iff]; omega
        rw [e]; simp [h]
    · rw [if_neg hp, fl_bit l at' p j hj i]
      congr 1
      by_cases h : j = at' + i
      · subst h
        rw [show at' + i - at' = i by omega]
        simp [hp]
      · have e : decide (at' ≤ j ∧ j < at' + i) = decide (at' ≤ j ∧ j < at' + (i + 1)) := by rw [Bool.eq_iff_iff, decide_eq_true_iff, decide_eq_true_iff]; omega
        rw [e]
/-- A burst changes the sum. -/
theorem burst_sum (l : List (BitVec 8)) (at' : Nat) (p : BitVec 32) (hp : p.getLsbD 0 = true) (ha : at' < 8 * l.length) : sum (fl l at' p 32) ≠ sum l := by
  intro h
  unfold sum upd at h
  rw [not_inj] at h
  have h2 : up (~~~ 0#32) (fl l at' p 32) ^^^ up (~~~ 0#32) l = 0#32 := by rw [h]; simp
  rw [up_bits, up_bits, fl_len, ← stB_xor, BitVec.xor_self] at h2
  rw [stB_congr (f := fun j => decide (at' ≤ j) && p.getLsbD (j - at')) (fun j hj => by
    rw [fl_bit l at' p j hj 32]
    by_cases h1 : at' ≤ j
    · by_cases h3 : j < at' + 32
      · rw [decide_eq_true ⟨h1, h3⟩, decide_eq_true h1]; cases bitAt l j <;> simp
      · rw [BitVec.getLsbD_of_ge p (j - at') (by omega)]; simp
    · rw [decide_eq_false (fun h => h1 h.1), decide_eq_false h1]; simp)] at h2
  rw [show 8 * l.length = at' + (8 * l.length - at') by omega, stB_add, stB_false _ _ at' (fun i hi => by rw [decide_eq_false (by omega : ¬ at' ≤ i)]; rfl), it_zero] at h2
  rw [stB_congr (f := fun i => p.getLsbD i) (fun i _ => by rw [decide_eq_true (by omega : at' ≤ at' + i), show at' + i - at' = i by omega]; rfl)] at h2
  exact stB_ne p hp (by omega) h2
/-- What a burst leaves is not accepted. -/
theorem burst_ck (l : List (BitVec 8)) (at' : Nat) (p : BitVec 32) (hp : p.getLsbD 0 = true) (ha : at' < 8 * (app l).length) : ck (fl (app l) at' p 32) = ([], 40) := by
  unfold ck
  rw [if_neg]
  rintro ⟨_, h⟩
  have h1 := burst_sum (app l) at' p hp ha
  rw [← h, sum_app, sum_app l] at h1
  exact h1 rfl
end Go.Proofs.Ytjlnaihlndmlfab
