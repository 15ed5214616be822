/- The contract of the closure that processes a bit 0. -/
import Derived.Test.YtjlnaihlndmlfabBase
namespace Go.Proofs.Ytjlnaihlndmlfab
open Go.RowKit Go.Joins

theorem zb_half (x : BitVec 32) : (zb x).toNat = x.toNat / 2 ^^^ (x.toNat % 2 * 3988292384) := by
  unfold zb
  have e : x.getLsbD 0 = decide (x.toNat % 2 = 1) := by
    unfold BitVec.getLsbD; rw [Nat.testBit_zero]
  rw [e]
  rcases Nat.mod_two_eq_zero_or_one x.toNat with h | h <;> rw [h] <;> simp [poly, Nat.shiftRight_eq_div_pow]
theorem bit_num (x : BitVec 32) : bits .xor .u32 ((x.toNat : Int) / 2) (bits .and .u32 (x.toNat : Int) 1 * 3988292384 % 4294967296) = ((zb x).toNat : Int) := by
  have hlt := x.isLt
  have h1 : bits .and .u32 (x.toNat : Int) 1 = ((x.toNat % 2 : Nat) : Int) := by
    rw [show (1 : Int) = ((1 : Nat) : Int) from rfl, u32_and_nat _ _ (by omega) (by omega), Nat.and_one_is_mod]
  have h2 : ((x.toNat % 2 : Nat) : Int) * 3988292384 % 4294967296 = ((x.toNat % 2 * 3988292384 : Nat) : Int) := by omega
  rw [h1, h2, show (x.toNat : Int) / 2 = ((x.toNat / 2 : Nat) : Int) by omega, u32_xor_nat _ _ (by omega) (by omega), zb_half]
theorem bit_any (B : Nat) (x : BitVec 32) (w : World) (hx : BoxN w B 23 #[U32 x]) :
    Calls Try.prog 24 #[.pointer (some ⟨B, 0, none⟩)] w fun e w' => e = .returned (.tuple #[]) ∧ w' = w.setCell ⟨B, 0, none⟩ (U32 (zb x)) := by
  have hlt := x.isLt
  have hc := hx.cell 0
  have hf := hx.frozen 0
  have hb := hx.lt
  simp at hc
  go_enter Try.func24, Try.ntmps24
  go_wp2
  go_end0
  exact ⟨rfl, by rw [bit_num]⟩
end Go.Proofs.Ytjlnaihlndmlfab
