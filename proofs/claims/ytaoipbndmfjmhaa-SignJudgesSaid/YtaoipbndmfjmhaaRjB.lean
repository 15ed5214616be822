/- The reference's word. -/
import Derived.Test.YtaoipbndmfjmhaaRfD
import Derived.Test.YtaoipbndmfjmhaaNum
namespace Go.Proofs.Ytaoipbndmfjmhaa
open Go.RowKit Go.Joins
theorem byteF_nat (x : BitVec 64) (j : Nat) : ((byteF x j).toNat : Int) = ((x.toNat / 256 ^ j % 256 : Nat) : Int) := by
  unfold byteF
  rw [BitVec.toNat_setWidth, BitVec.toNat_ushiftRight, Nat.shiftRight_eq_div_pow, show 2 ^ (8 * j) = 256 ^ j by rw [Nat.pow_mul]]

set_option maxRecDepth 100000 in
set_option maxHeartbeats 2000000 in
theorem word_any (b off N cap p : Nat) (x : BitVec 64) (hp : p + 8 ≤ N) (hN : N ≤ 100000) (w : World) (hc : ∀ j, j < 8 → w.cell? ⟨b, off + (p + j), none⟩ = some (U8 (byteF x j))) :
    Calls Try.prog 49 #[.slice (some ⟨b, off, none⟩) N cap, .int .i64 p] w fun e w' => e = .returned (U64 x) ∧ w' = w := by
  go_enter Try.func49, Try.ntmps49
  go_wp2_with fail
  go_loopw [5, 6] (fun y i wr => ∃ (k v : Nat), k ≤ 8 ∧ v = x.toNat / 256 ^ k ∧ i = .int .i64 ((k : Int) - 1) ∧ y = .int .u64 v ∧ wr = w)
    (fun _ i _ => (intOf i + 1).toNat)
  case atStart => exact ⟨8, 0, by omega, by rw [Nat.div_eq_of_lt]; exact x.isLt, rfl, rfl, rfl⟩
  case round =>
    obtain ⟨k, v, hk, hv, rfl, rfl, rfl⟩ := hrel
    have hxl := x.isLt
    by_cases hlt : 0 < k
    · obtain ⟨k1, rfl⟩ : ∃ k1, k = k1 + 1 := ⟨k - 1, by omega⟩
      have e1 : ((k1 + 1 : Nat) : Int) - 1 = (k1 : Int) := by omega
      rw [e1]
      have hd : decide (0 ≤ (k1 : Int)) = true := decide_eq_true (by omega)
      have hc1 := hc k1 (by omega)
      unfold U8 at hc1
      rw [byteF_nat] at hc1
      obtain ⟨s, hs⟩ : ∃ s, p + k1 = s := ⟨_, rfl⟩
      have es : (p : Int) + (k1 : Int) = (s : Int) := by omega
      rw [hs] at hc1
      have hsN : (s : Int) < (N : Int) := by omega
      have hv2 : 256 * v + x.toNat / 256 ^ k1 % 256 = x.toNat / 256 ^ k1 := by
        rw [hv, Nat.pow_succ, ← Nat.div_div_eq_div_mul]; omega
      obtain ⟨u, hu⟩ : ∃ u, x.toNat / 256 ^ k1 % 256 = u := ⟨_, rfl⟩
      obtain ⟨v2, hv3⟩ : ∃ v2, x.toNat / 256 ^ k1 = v2 := ⟨_, rfl⟩
      have hv2l : v2 ≤ x.toNat := by rw [← hv3]; exact Nat.div_le_self _ _
      rw [hu] at hc1 hv2
      rw [hv3] at hv2
      have HV3 := Lib.hid hv3
      have eu : (256 : Int) * (v : Int) + (u : Int) = (v2 : Int) := by omega
      have wu : IntKind.u64.wrap ((256 : Int) * (v : Int) + (u : Int)) = (v2 : Int) := by
        rw [eu]; simp only [IntKind.wrap, IntKind.signed, IntKind.bits, Bool.false_and, Bool.false_eq_true, if_false]; omega
      have wv : IntKind.u64.wrap ((256 : Int) * (v : Int)) = (256 : Int) * (v : Int) := by
        simp only [IntKind.wrap, IntKind.signed, IntKind.bits, Bool.false_and, Bool.false_eq_true, if_false]; omega
      have wq : IntKind.u64.wrap (u : Int) = (u : Int) := by
        simp only [IntKind.wrap, IntKind.signed, IntKind.bits, Bool.false_and, Bool.false_eq_true, if_false]; omega
      clear hs hu hv3 hv hv2 hxl hc
      go_wp2_with fail
      go_roundw
      case rel => exact ⟨k1, v2, by omega, HV3.out.symm, rfl, by first | rfl | rw [wu], by first | rfl | trivial⟩
      case measure => first | (simp [intOf]; done) | (simp [intOf]; omega)
    · obtain rfl : k = 0 := by omega
      rw [Nat.pow_zero, Nat.div_one] at hv
      subst hv
      clear hc
      go_wp2_with fail
      go_ret
      exact ⟨rfl, rfl⟩
end Go.Proofs.Ytaoipbndmfjmhaa
