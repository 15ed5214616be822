/- The contract of numberAt. -/
import Derived.Test.YtaoipbndmfjmhaaEnc
namespace Go.Proofs.Ytaoipbndmfjmhaa
open Go.RowKit Go.Joins

/-- The number whose first k bytes are read. -/
def numK (l : List (BitVec 8)) (i : Nat) : Nat → BitVec 64
  | 0 => 0#64
  | k + 1 => numK l i k ||| ((l.getD (i * 8 + k) 0#8).setWidth 64 <<< (8 * k))
def numB (l : List (BitVec 8)) (i : Nat) : BitVec 64 := numK l i 8
theorem numK_bit (l : List (BitVec 8)) (i : Nat) (x : BitVec 64) (h : ∀ j, j < 8 → l.getD (i * 8 + j) 0#8 = byteF x j) : ∀ k, k ≤ 8 → ∀ b, b < 64 → (numK l i k).getLsbD b = (decide (b < 8 * k) && x.getLsbD b)
  | 0, _, b, _ => by simp [numK]
  | k + 1, hk, b, hb => by
    rw [numK, BitVec.getLsbD_or, numK_bit l i x h k (by omega) b hb, BitVec.getLsbD_shiftLeft, h k (by omega)]
    unfold byteF
    rw [BitVec.getLsbD_setWidth, BitVec.getLsbD_setWidth, BitVec.getLsbD_ushiftRight]
    by_cases h1 : b < 8 * k
    · have e1 : b < 8 * (k + 1) := by omega
      simp [h1, e1]
    · by_cases h2 : b < 8 * (k + 1)
      · have e3 : b - 8 * k < 8 := by omega
        have e4 : 8 * k + (b - 8 * k) = b := by omega
        have e5 : b - 8 * k < 64 := by omega
        simp [h1, h2, e3, e4, e5, hb]
      · have e3 : ¬ (b - 8 * k < 8) := by omega
        simp [h1, h2, e3]
theorem numB_of (l : List (BitVec 8)) (i : Nat) (x : BitVec 64) (h : ∀ j, j < 8 → l.getD (i * 8 + j) 0#8 = byteF x j) : numB l i = x := by
  apply BitVec.eq_of_getLsbD_eq
  intro b hb
  unfold numB
  rw [numK_bit l i x h 8 (Nat.le_refl _) b hb]
  simp [hb]

set_option maxRecDepth 100000 in
set_option maxHeartbeats 1000000 in
theorem number_any (A : Option Addr) (cap : Nat) (l : List (BitVec 8)) (hlen : l.length ≤ 100000) (i : Nat) (hi : i * 8 + 8 ≤ l.length) (w : World) (hl : isB A l w) :
    Calls Try.prog 48 #[.slice A l.length cap, .int .i64 i] w fun e w' => e = .returned (U64 (numB l i)) ∧ Below w.heap.size w w' := by
  have hB := Below.refl w.heap.size w
  obtain ⟨b, off, rfl, hbl, hr⟩ := hl (by intro e; rw [e] at hi; simp at hi)
  obtain ⟨i8, hi8⟩ : ∃ i8, i * 8 = i8 := ⟨_, rfl⟩
  have e8 : ((i : Int) * 8) = (i8 : Int) := by omega
  go_enter Try.func48, Try.ntmps48
  go_wp2_with fail
  go_loopw [5, 7] (fun x j wr => ∃ k : Nat, k ≤ 8 ∧ j = .int .i64 k ∧ x = U64 (numK l i k) ∧ wr = w)
    (fun _ j _ => (8 - intOf j).toNat)
  case atStart => exact ⟨0, by omega, rfl, rfl, rfl⟩
  case round =>
    obtain ⟨k, hk, rfl, rfl, rfl⟩ := hrel
    by_cases hlt : k < 8
    · have hd : decide ((k : Int) < 8) = true := by simp; omega
      have hgk : l[i8 + k]? = some (l[i8 + k]'(by omega)) := List.getElem?_eq_getElem _
      obtain ⟨z, hz⟩ : ∃ z, l[i8 + k]'(by omega) = z := ⟨_, rfl⟩
      rw [hz] at hgk
      obtain ⟨p, hp⟩ : ∃ p, i8 + k = p := ⟨_, rfl⟩
      have ep : (i8 : Int) + (k : Int) = (p : Int) := by omega
      rw [hp] at hgk
      have hc := hr p z hgk
      have hpl : p < l.length := (List.getElem?_eq_some_iff.1 hgk).1
      have hstep : Hid (numK l i (k + 1) = numK l i k ||| (z.setWidth 64 <<< (8 * k))) := by
        unfold Hid
        rw [numK, hi8, hp, List.getD_eq_getElem?_getD, hgk]; rfl
      generalize numK l i k = x at *
      clear hz hgk hr
      have hor : Hid (bits .or .u64 (x.toNat : Int) (IntKind.u64.wrap ((z.toNat : Int) * 2 ^ (8 * k))) = ((x ||| (z.setWidth 64 <<< (8 * k))).toNat : Int)) := by
        unfold Hid
        rw [wide z, shl64 (z.setWidth 64) (8 * k) (2 ^ (8 * k)) (Int.natCast_pow 2 (8 * k)).symm, or64]
      go_wp2_with fail
      go_roundw
      case rel => exact ⟨k + 1, by omega, by go_num, by rw [hstep.out]; exact congrArg _ hor.out, by first | rfl | trivial⟩
      case measure => simp [intOf]; omega
    · obtain rfl : k = 8 := by omega
      go_wp2_with fail
      go_ret
      exact ⟨rfl, hB⟩
end Go.Proofs.Ytaoipbndmfjmhaa
