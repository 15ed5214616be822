/- The contracts of Finish and Of. -/
import Derived.Test.YtaoipbndmfjmhaaAdd
namespace Go.Proofs.Ytaoipbndmfjmhaa
open Go.RowKit Go.Joins

/-- A step of finishing. -/
def finT (x : BitVec 64) : BitVec 64 := finX (finS x)
theorem fin_two (s n : BitVec 64) : fin s n = finT (finT (s ^^^ n)) := rfl
def finK (x : BitVec 64) : Nat → BitVec 64
  | 0 => x
  | k + 1 => finT (finK x k)
theorem i64_u64 (n : BitVec 64) : IntKind.u64.wrap n.toInt = (n.toNat : Int) := by
  simp only [IntKind.wrap, IntKind.signed, IntKind.bits, Bool.false_and, Bool.false_eq_true, if_false]
  have h := BitVec.toInt_eq_toNat_cond n
  have hl := n.isLt
  rw [h]
  split <;> omega

set_option maxRecDepth 100000 in
set_option maxHeartbeats 1000000 in
theorem fin_any (s n : BitVec 64) (w : World) :
    Calls Try.prog 54 #[St s n] w fun e w' => e = .returned (U64 (fin s n)) ∧ Below w.heap.size w w' := by
  have h1 := i64_u64 n
  have h2 := xor64 s n
  obtain ⟨x, hx⟩ : ∃ x, s ^^^ n = x := ⟨_, rfl⟩
  rw [hx] at h2
  have HF : Hid (fin s n = finK x 2) := by unfold Hid; rw [fin_two, hx]; rfl
  clear hx
  go_enter Try.func54, Try.ntmps54
  go_wp2_with fail
  clear h1 h2
  have hB := (Below.refl _ w).alloc (Nat.le_refl _) (.cells #[U64 s, I64 n] 88)
  generalize w.alloc (.cells #[U64 s, I64 n] 88) = W at hB ⊢
  go_loop [3, 10] (fun r i => ∃ k : Nat, k ≤ 2 ∧ i = .int .i64 k ∧ r = U64 (finK x k))
    (fun _ i => 2 - (intOf i).toNat)
  case atStart => exact ⟨0, by omega, rfl, rfl⟩
  case round =>
    obtain ⟨k, hk, rfl, rfl⟩ := hrel
    by_cases hlt : k < 2
    · have hd : decide ((k : Int) < 2) = true := by simp; omega
      have hs : Hid (finK x (k + 1) = finT (finK x k)) := rfl
      generalize finK x k = y at hs ⊢
      have h3 : IntKind.u64.wrap ((y.toNat : Int) + IntKind.u64.wrap ((y.toNat : Int) * 68719476736)) = ((finS y).toNat : Int) := by
        rw [shl64 y 36 68719476736 (by decide), add64]; rfl
      obtain ⟨z, hz⟩ : ∃ z, finS y = z := ⟨_, rfl⟩
      rw [hz] at h3
      have h4 : bits .xor .u64 (z.toNat : Int) ((z.toNat : Int) / 268435456) = ((finX z).toNat : Int) := by
        rw [shr64 z 28 268435456 (by decide), xor64]; rfl
      have hf : Hid (finX z = finK x (k + 1)) := by unfold Hid; rw [hs.out]; unfold finT; rw [hz]
      generalize finX z = q at h4 hf
      clear hz
      go_wp2_with fail
      go_round
      case rel => exact ⟨k + 1, by omega, by go_num, by rw [← hf.out]⟩
      case measure => simp [intOf]; omega
    · obtain rfl : k = 2 := by omega
      go_wp2_with fail
      go_ret
      exact ⟨by rw [HF.out]; rfl, hB⟩

set_option maxRecDepth 100000 in
theorem of_any (A : Option Addr) (cap : Nat) (l : List (BitVec 8)) (hlen : l.length ≤ 4611686018427387904) (w : World) (hl : isB A l w) :
    Calls Try.prog 33 #[.slice A l.length cap] w fun e w' => e = .returned (U64 (dg l)) ∧ Below w.heap.size w w' := by
  have HA : Hid (∀ W, isB A l W → _) := fun W h => add_any A cap l hlen start 0#64 W h
  have HK : Hid (∀ W, Below w.heap.size w W → isB A l W) := fun W h => hl.keep h
  have hu : Hid (dg l = fin (ad start l) (0#64 + BitVec.ofNat 64 l.length)) := by unfold Hid dg; rw [BitVec.zero_add]
  generalize 0#64 + BitVec.ofNat 64 l.length = m at hu HA
  generalize ad start l = r at hu HA
  have HN : Hid (∀ W : World, _) := fun W => new_any W
  generalize start = st at HN HA
  have HF : Hid (∀ W : World, _) := fun W => fin_any r m W
  go_enter Try.func33, Try.ntmps33
  go_wp2_with fail
  (with_reducible refine (HN.out _).mono ?_); rintro e w1 ⟨rfl, hb1⟩
  go_wp2_with fail
  (with_reducible refine (HA.out _ (HK.out _ hb1)).mono ?_); rintro e w2 ⟨rfl, hb2⟩
  replace hb2 := hb1.trans (hb2.mono hb1.size)
  clear hb1
  go_wp2_with fail
  (with_reducible refine (HF.out _).mono ?_); rintro e w3 ⟨rfl, hb3⟩
  replace hb3 := hb2.trans (hb3.mono hb2.size)
  clear hb2
  go_wp2_with fail
  go_ret
  exact ⟨by rw [hu.out]; rfl, hb3⟩
end Go.Proofs.Ytaoipbndmfjmhaa
