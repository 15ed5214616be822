/- Digests as words of 64 bits: plain mathematics. -/
import Derived.Test.YtaoipbndmfjmhaaProg
namespace Go.Proofs.Ytaoipbndmfjmhaa

/-- A byte is combined. -/
def mixB (s : BitVec 64) (v : BitVec 8) : BitVec 64 := s ^^^ v.setWidth 64
def mulB (x : BitVec 64) : BitVec 64 := x + x <<< 28
def rotB (y : BitVec 64) : BitVec 64 := (y <<< 20) ||| (y >>> 44)
def addB (s : BitVec 64) (v : BitVec 8) : BitVec 64 := rotB (mulB (mixB s v))
def ad (s : BitVec 64) (l : List (BitVec 8)) : BitVec 64 := l.foldl addB s
theorem ad_nil (s : BitVec 64) : ad s [] = s := rfl
theorem ad_append (s : BitVec 64) (l m : List (BitVec 8)) : ad s (l ++ m) = ad (ad s l) m := List.foldl_append
theorem ad_snoc (s : BitVec 64) (l : List (BitVec 8)) (b : BitVec 8) : ad s (l ++ [b]) = addB (ad s l) b := by rw [ad_append]; rfl
def finS (x : BitVec 64) : BitVec 64 := x + x <<< 36
def finX (x : BitVec 64) : BitVec 64 := x ^^^ (x >>> 28)
def fin (s n : BitVec 64) : BitVec 64 := finX (finS (finX (finS (s ^^^ n))))
def start : BitVec 64 := 7953747704174896417#64
/-- The digest of a sequence. -/
def dg (l : List (BitVec 8)) : BitVec 64 := fin (ad start l) (BitVec.ofNat 64 l.length)

/-- Rotated back. -/
def rotI (t : BitVec 64) : BitVec 64 := (t >>> 20) ||| (t <<< 44)
theorem rotI_rotB (y : BitVec 64) : rotI (rotB y) = y := by
  apply BitVec.eq_of_getLsbD_eq
  intro i hi
  simp only [rotI, rotB, BitVec.getLsbD_or, BitVec.getLsbD_ushiftRight, BitVec.getLsbD_shiftLeft]
  by_cases h : i < 44
  · have e1 : 20 + i < 64 := by omega
    have e2 : ¬ (20 + i < 20) := by omega
    have e3 : 20 + i - 20 = i := by omega
    have e4 : y.getLsbD (44 + (20 + i)) = false := BitVec.getLsbD_of_ge _ _ (by omega)
    simp [h, e1, e2, e3, e4]
  · have e1 : ¬ (20 + i < 64) := by omega
    have e2 : i - 44 < 64 := by omega
    have e3 : i - 44 < 20 := by omega
    have e4 : 44 + (i - 44) = i := by omega
    have e5 : y.getLsbD (44 + (20 + i)) = false := BitVec.getLsbD_of_ge _ _ (by omega)
    simp [h, hi, e1, e3, e4, e5]
theorem rotB_rotI (y : BitVec 64) : rotB (rotI y) = y := by
  apply BitVec.eq_of_getLsbD_eq
  intro i hi
  simp only [rotI, rotB, BitVec.getLsbD_or, BitVec.getLsbD_ushiftRight, BitVec.getLsbD_shiftLeft]
  by_cases h : i < 20
  · have e1 : 44 + i < 64 := by omega
    have e2 : ¬ (44 + i < 44) := by omega
    have e3 : 44 + i - 44 = i := by omega
    have e4 : y.getLsbD (20 + (44 + i)) = false := BitVec.getLsbD_of_ge _ _ (by omega)
    simp [h, e1, e2, e3, e4]
  · have e1 : ¬ (44 + i < 64) := by omega
    have e3 : i - 20 < 44 := by omega
    have e4 : 20 + (i - 20) = i := by omega
    have e5 : y.getLsbD (20 + (44 + i)) = false := BitVec.getLsbD_of_ge _ _ (by omega)
    simp [h, hi, e1, e3, e4, e5]
theorem shl_mul (x : BitVec 64) (k : Nat) : x <<< k = x * BitVec.twoPow 64 k := BitVec.shiftLeft_eq_mul_twoPow x k
/-- Multiplied by the inverse of 1 + 2^28. -/
def mulI (y : BitVec 64) : BitVec 64 := y - y <<< 28 + y <<< 56
theorem mulI_mulB (x : BitVec 64) : mulI (mulB x) = x := by
  unfold mulI mulB
  simp only [shl_mul]
  rw [show BitVec.twoPow 64 28 = 268435456#64 by decide, show BitVec.twoPow 64 56 = 72057594037927936#64 by decide]
  grind
theorem mulB_mulI (x : BitVec 64) : mulB (mulI x) = x := by
  unfold mulI mulB
  simp only [shl_mul]
  rw [show BitVec.twoPow 64 28 = 268435456#64 by decide, show BitVec.twoPow 64 56 = 72057594037927936#64 by decide]
  grind
def finSI (y : BitVec 64) : BitVec 64 := y - y <<< 36
theorem finSI_finS (x : BitVec 64) : finSI (finS x) = x := by
  unfold finSI finS
  simp only [shl_mul]
  rw [show BitVec.twoPow 64 36 = 68719476736#64 by decide]
  grind
def finXI (x : BitVec 64) : BitVec 64 := x ^^^ (x >>> 28) ^^^ (x >>> 56)
theorem finXI_finX (x : BitVec 64) : finXI (finX x) = x := by
  unfold finXI finX
  rw [BitVec.ushiftRight_xor_distrib, BitVec.ushiftRight_xor_distrib, ← BitVec.shiftRight_add, ← BitVec.shiftRight_add]
  have h : x >>> (28 + 56) = 0#64 := by
    apply BitVec.eq_of_getLsbD_eq
    intro i hi
    rw [BitVec.getLsbD_ushiftRight, BitVec.getLsbD_of_ge _ _ (by omega), BitVec.getLsbD_zero]
  rw [h]
  rw [show 28 + 28 = 56 from rfl, BitVec.xor_zero]
  rw [show x ^^^ x >>> 28 ^^^ (x >>> 28 ^^^ x >>> 56) ^^^ x >>> 56 = x ^^^ (x >>> 28 ^^^ x >>> 28) ^^^ (x >>> 56 ^^^ x >>> 56) by ac_rfl]
  simp
theorem xor_right_inj {n : Nat} {x y : BitVec n} (z : BitVec n) : x ^^^ z = y ^^^ z ↔ x = y := by
  constructor
  · intro h
    have := congrArg (· ^^^ z) h
    simpa only [BitVec.xor_assoc, BitVec.xor_self, BitVec.xor_zero] using this
  · rintro rfl; rfl
theorem xor_left_inj {n : Nat} {x y : BitVec n} (z : BitVec n) : z ^^^ x = z ^^^ y ↔ x = y := by
  rw [BitVec.xor_comm z x, BitVec.xor_comm z y, xor_right_inj]
theorem inj_of {α β : Type} {f : α → β} {g : β → α} (h : ∀ x, g (f x) = x) {x y : α} : f x = f y ↔ x = y :=
  ⟨fun e => by rw [← h x, e, h], fun e => by rw [e]⟩
theorem fin_inj {s t : BitVec 64} (n : BitVec 64) : fin s n = fin t n ↔ s = t := by
  unfold fin
  rw [inj_of finXI_finX, inj_of finSI_finS, inj_of finXI_finX, inj_of finSI_finS, xor_right_inj]
theorem addB_inj {s t : BitVec 64} (v : BitVec 8) : addB s v = addB t v ↔ s = t := by
  unfold addB mixB
  rw [inj_of rotI_rotB, inj_of mulI_mulB, xor_right_inj]
theorem setWidth_inj {u v : BitVec 8} : u.setWidth 64 = v.setWidth 64 ↔ u = v := by
  constructor
  · intro h
    have := congrArg (BitVec.setWidth 8) h
    simpa using this
  · rintro rfl; rfl
theorem addB_inj2 (s : BitVec 64) {u v : BitVec 8} : addB s u = addB s v ↔ u = v := by
  unfold addB mixB
  rw [inj_of rotI_rotB, inj_of mulI_mulB, xor_left_inj, setWidth_inj]
theorem ad_inj {s t : BitVec 64} : ∀ l : List (BitVec 8), ad s l = ad t l ↔ s = t
  | [] => Iff.rfl
  | b :: l => by
    show ad (addB s b) l = ad (addB t b) l ↔ _
    rw [ad_inj l, addB_inj]
/-- One byte differs. -/
theorem ad_set (s : BitVec 64) (l : List (BitVec 8)) (k : Nat) (b c : BitVec 8) (hk : l[k]? = some b) : ad s l = ad s (l.set k c) ↔ b = c := by
  obtain ⟨hlt, he⟩ := List.getElem?_eq_some_iff.1 hk
  have h1 : l = l.take k ++ b :: l.drop (k + 1) := by
    conv => lhs; rw [← List.take_append_drop k l]
    rw [List.drop_eq_getElem_cons hlt, he]
  have h2 : l.set k c = l.take k ++ c :: l.drop (k + 1) := List.set_eq_take_append_cons_drop .. |>.trans (by rw [if_pos hlt])
  rw [h2]
  conv => lhs; lhs; rw [h1]
  rw [ad_append, ad_append]
  show ad (addB _ b) _ = ad (addB _ c) _ ↔ _
  rw [ad_inj, addB_inj2]
theorem dg_set (l : List (BitVec 8)) (k : Nat) (b c : BitVec 8) (hk : l[k]? = some b) : dg l = dg (l.set k c) ↔ b = c := by
  unfold dg
  rw [List.length_set, fin_inj, ad_set _ _ _ _ _ hk]
theorem xor_eq_self {n : Nat} (b c : BitVec n) : b = b ^^^ c ↔ c = 0#n := by
  conv => lhs; lhs; rw [← BitVec.xor_zero (x := b)]
  rw [xor_left_inj]
  exact eq_comm
end Go.Proofs.Ytaoipbndmfjmhaa
