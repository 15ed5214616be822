/- Registers of the cyclic redundancy check as words of 32 bits: plain mathematics. -/
import Derived.Test.YtjlnaihlndmlfabProg
namespace Go.Proofs.Ytjlnaihlndmlfab

def poly : BitVec 32 := 3988292384#32
/-- A bit 0 is processed. -/
def zb (x : BitVec 32) : BitVec 32 := (x >>> 1) ^^^ (if x.getLsbD 0 then poly else 0#32)
/-- n bits 0 are processed. -/
def it : Nat → BitVec 32 → BitVec 32
  | 0, x => x
  | n + 1, x => it n (zb x)
theorem it_succ (n : Nat) (x : BitVec 32) : it (n + 1) x = it n (zb x) := rfl
theorem it_add (m n : Nat) (x : BitVec 32) : it (m + n) x = it n (it m x) := by
  induction m generalizing x with
  | zero => rw [Nat.zero_add]; rfl
  | succ m ih => rw [Nat.succ_add]; exact ih (zb x)
theorem it_snoc (n : Nat) (x : BitVec 32) : it (n + 1) x = zb (it n x) := it_add n 1 x

theorem zb_xor (x y : BitVec 32) : zb (x ^^^ y) = zb x ^^^ zb y := by
  unfold zb
  rw [BitVec.ushiftRight_xor_distrib, BitVec.getLsbD_xor]
  have hp : poly ^^^ poly = 0#32 := by decide
  cases x.getLsbD 0 <;> cases y.getLsbD 0 <;> simp only [Bool.false_xor, Bool.true_xor, Bool.not_false, Bool.not_true, if_true, if_false, Bool.false_eq_true, BitVec.xor_zero]
  · ac_rfl
  · ac_rfl
  · rw [show x >>> 1 ^^^ poly ^^^ (y >>> 1 ^^^ poly) = (x >>> 1 ^^^ y >>> 1) ^^^ (poly ^^^ poly) by ac_rfl, hp, BitVec.xor_zero]
theorem it_xor (n : Nat) (x y : BitVec 32) : it n (x ^^^ y) = it n x ^^^ it n y := by
  induction n generalizing x y with
  | zero => rfl
  | succ n ih => rw [it_succ, it_succ, it_succ, zb_xor, ih]
theorem zb_zero : zb 0#32 = 0#32 := by decide
theorem it_zero (n : Nat) : it n 0#32 = 0#32 := by
  induction n with
  | zero => rfl
  | succ n ih => rw [it_succ, zb_zero, ih]
theorem zb_ne {x : BitVec 32} (h : zb x = 0#32) : x = 0#32 := by
  unfold zb at h
  cases hx : x.getLsbD 0 with
  | true =>
    rw [hx] at h
    have := congrArg (fun v : BitVec 32 => v.getLsbD 31) h
    simp [poly] at this
  | false =>
    rw [hx] at h
    simp only [Bool.false_eq_true, if_false, BitVec.xor_zero] at h
    apply BitVec.eq_of_getLsbD_eq
    intro i hi
    rcases Nat.eq_zero_or_pos i with rfl | hp
    · simpa using hx
    · have := congrArg (fun v : BitVec 32 => v.getLsbD (i - 1)) h
      simp only [BitVec.getLsbD_ushiftRight, BitVec.getLsbD_zero] at this
      rw [show 1 + (i - 1) = i by omega] at this
      simpa using this
theorem it_ne {n : Nat} {x : BitVec 32} (h : it n x = 0#32) : x = 0#32 := by
  induction n generalizing x with
  | zero => exact h
  | succ n ih => exact zb_ne (ih h)
theorem xor_eq_zero {x y : BitVec 32} : x ^^^ y = 0#32 ↔ x = y := by
  constructor
  · intro h
    have := congrArg (· ^^^ y) h
    simpa [BitVec.xor_assoc] using this
  · rintro rfl; simp
theorem it_inj {n : Nat} {x y : BitVec 32} : it n x = it n y ↔ x = y := by
  constructor
  · intro h
    have h2 : it n (x ^^^ y) = 0#32 := by rw [it_xor, h]; simp
    exact xor_eq_zero.1 (it_ne h2)
  · rintro rfl; rfl
/-- Low bits that are not set are only shifted out. -/
theorem it_low : ∀ (n : Nat) (x : BitVec 32), (∀ i, i < n → x.getLsbD i = false) → it n x = x >>> n
  | 0, x, _ => by simp [it]
  | n + 1, x, h => by
    have h0 : zb x = x >>> 1 := by unfold zb; rw [h 0 (by omega)]; simp
    rw [it_succ, h0, it_low n (x >>> 1) (fun i hi => by rw [BitVec.getLsbD_ushiftRight]; exact h _ (by omega)), ← BitVec.shiftRight_add, Nat.add_comm]

/-- A byte is processed. -/
def by8 (r : BitVec 32) (b : BitVec 8) : BitVec 32 := it 8 (r ^^^ b.setWidth 32)
/-- What the table of bytes has at an index. -/
def tabV (i : Nat) : BitVec 32 := it 8 (BitVec.ofNat 32 i)
theorem by8_tab (r : BitVec 32) (b : BitVec 8) : (r >>> 8) ^^^ tabV ((r.setWidth 8 ^^^ b).toNat) = by8 r b := by
  have e : BitVec.ofNat 32 ((r.setWidth 8 ^^^ b).toNat) = (r.setWidth 8 ^^^ b).setWidth 32 := by
    apply BitVec.eq_of_toNat_eq; simp
  unfold tabV by8
  rw [e]
  have h : r ^^^ b.setWidth 32 = (r ^^^ (r.setWidth 8).setWidth 32) ^^^ (r.setWidth 8 ^^^ b).setWidth 32 := by
    apply BitVec.eq_of_getLsbD_eq
    intro i hi
    simp only [BitVec.getLsbD_xor, BitVec.getLsbD_setWidth]
    by_cases h8 : i < 8 <;> simp [hi, h8] <;> cases r.getLsbD i <;> cases b.getLsbD i <;> rfl
  rw [h, it_xor, it_low 8 (r ^^^ (r.setWidth 8).setWidth 32) (fun i hi => by
    simp only [BitVec.getLsbD_xor, BitVec.getLsbD_setWidth]
    rw [decide_eq_true hi, decide_eq_true (by omega : i < 32)]; simp)]
  congr 1
  apply BitVec.eq_of_getLsbD_eq
  intro i hi
  simp only [BitVec.getLsbD_ushiftRight, BitVec.getLsbD_xor, BitVec.getLsbD_setWidth]
  rw [decide_eq_false (by omega : ¬ 8 + i < 8)]; simp

/-- The register after bytes. -/
def up (r : BitVec 32) (l : List (BitVec 8)) : BitVec 32 := l.foldl by8 r
theorem up_nil (r : BitVec 32) : up r [] = r := rfl
theorem up_cons (r : BitVec 32) (b : BitVec 8) (l : List (BitVec 8)) : up r (b :: l) = up (by8 r b) l := rfl
theorem up_append (r : BitVec 32) (l m : List (BitVec 8)) : up r (l ++ m) = up (up r l) m := List.foldl_append
theorem up_snoc (r : BitVec 32) (l : List (BitVec 8)) (b : BitVec 8) : up r (l ++ [b]) = by8 (up r l) b := by rw [up_append]; rfl
theorem by8_xor (r s : BitVec 32) (a b : BitVec 8) : by8 (r ^^^ s) (a ^^^ b) = by8 r a ^^^ by8 s b := by
  unfold by8
  rw [← it_xor]
  congr 1
  rw [BitVec.setWidth_xor]
  ac_rfl
theorem up_xor : ∀ (l m : List (BitVec 8)) (r s : BitVec 32), l.length = m.length → up (r ^^^ s) (List.zipWith (· ^^^ ·) l m) = up r l ^^^ up s m
  | [], [], _, _, _ => rfl
  | a :: l, b :: m, r, s, h => by
    rw [List.zipWith_cons_cons, up_cons, up_cons, up_cons, by8_xor]
    exact up_xor l m _ _ (by simpa using h)
  | [], _ :: _, _, _, h => by simp at h
  | _ :: _, [], _, _, h => by simp at h
/-- The register's part in it moves over the bytes as over bits 0. -/
theorem up_split : ∀ (l : List (BitVec 8)) (r : BitVec 32), up r l = it (8 * l.length) r ^^^ up 0#32 l
  | [], r => by simp [up, it]
  | b :: l, r => by
    rw [up_cons, up_cons, up_split l (by8 r b), up_split l (by8 0#32 b)]
    unfold by8
    rw [List.length_cons, show 8 * (l.length + 1) = 8 + 8 * l.length by omega, it_add, it_xor 8 r, it_xor, BitVec.zero_xor]
    ac_rfl
/-- The sum of what has a sum, followed by bytes. -/
def upd (s : BitVec 32) (l : List (BitVec 8)) : BitVec 32 := ~~~ (up (~~~ s) l)
def sum (l : List (BitVec 8)) : BitVec 32 := upd 0#32 l
/-- The sum of two parts. -/
def comb (a b : BitVec 32) (n : Nat) : BitVec 32 := it (8 * n) a ^^^ b
theorem not_xor (x y : BitVec 32) : ~~~ (x ^^^ y) = x ^^^ ~~~ y := by
  apply BitVec.eq_of_getLsbD_eq
  intro i hi
  simp [hi]
theorem upd_append (s : BitVec 32) (l m : List (BitVec 8)) : upd s (l ++ m) = upd (upd s l) m := by
  unfold upd; rw [up_append, BitVec.not_not]
theorem upd_nil (s : BitVec 32) : upd s [] = s := by unfold upd; rw [up_nil, BitVec.not_not]
theorem upd_eq (s : BitVec 32) (l : List (BitVec 8)) : upd s l = comb s (sum l) l.length := by
  unfold sum comb upd
  have h : ~~~ s = s ^^^ ~~~ 0#32 := by
    rw [← not_xor, BitVec.xor_zero]
  rw [h, up_split l (s ^^^ ~~~ 0#32), it_xor, up_split l (~~~ 0#32), ← not_xor]
  congr 1
  ac_rfl
theorem sum_append (l m : List (BitVec 8)) : sum (l ++ m) = comb (sum l) (sum m) m.length := by
  rw [← upd_eq]; exact upd_append _ l m
end Go.Proofs.Ytjlnaihlndmlfab
