/- The contracts of next, times and squared. -/
import Derived.Test.YtjlnaihlndmlfabTab
namespace Go.Proofs.Ytjlnaihlndmlfab
open Go.RowKit Go.Joins

theorem xor32 (x y : BitVec 32) : bits .xor .u32 (x.toNat : Int) (y.toNat : Int) = ((x ^^^ y).toNat : Int) := by
  have := x.isLt
  have := y.isLt
  rw [u32_xor_nat _ _ (by omega) (by omega), BitVec.toNat_xor]
theorem xor8 (x y : BitVec 8) : bits .xor .u8 (x.toNat : Int) (y.toNat : Int) = ((x ^^^ y).toNat : Int) := by
  have := x.isLt
  have := y.isLt
  rw [u8_xor_nat _ _ (by omega) (by omega), BitVec.toNat_xor]

set_option maxRecDepth 100000 in
theorem next_any (g : Nat) (t : TypeId) (r : BitVec 32) (b : BitVec 8) (w : World) (hg : BoxN w g t tab) :
    Calls Try.prog 21 #[.pointer (some ⟨g, 0, none⟩), U32 r, U8 b] w fun e w' => e = .returned (U32 (by8 r b)) ∧ w' = w := by
  have hr := r.isLt
  have hb := b.isLt
  have e1 : (r.toNat : Int) % 256 = ((r.setWidth 8).toNat : Int) := by rw [BitVec.toNat_setWidth]; omega
  have e2 := xor8 (r.setWidth 8) b
  have e3 : (r.toNat : Int) / 256 = ((r >>> 8).toNat : Int) := by rw [BitVec.toNat_ushiftRight, Nat.shiftRight_eq_div_pow]; omega
  have e4 := xor32 (r >>> 8) (tabV (r.setWidth 8 ^^^ b).toNat)
  rw [by8_tab] at e4
  have hi := (r.setWidth 8 ^^^ b).isLt
  generalize by8 r b = y at e4 ⊢
  generalize r >>> 8 = q at e3 e4
  generalize r.setWidth 8 = p at e1 e2 e4 hi
  generalize (p ^^^ b).toNat = i at e2 e4 hi
  have hc := hg.cell i
  rw [tab_get i hi] at hc
  generalize tabV i = v at e4 hc
  have hgl := hg.lt
  simp only [U32, U8] at hc ⊢
  generalize p.toNat = p at e1 e2
  generalize q.toNat = q at e3 e4
  generalize v.toNat = v at hc e4
  generalize y.toNat = y at e4 ⊢
  generalize r.toNat = r at e1 e3 hr ⊢
  generalize b.toNat = b at e2 hb ⊢
  go_enter Try.func21, Try.ntmps21
  go_wp2_with fail
  go_ret
  exact ⟨by show Ending.returned (.int .u32 (bits .xor .u32 ((r : Int) / 256) v)) = _; rw [show (r : Int) / 256 = q from e3, e4], rfl⟩

/-- A matrix's columns in memory. -/
def matRow (m : List (BitVec 32)) : Array Value := (m.map U32).toArray
/-- The product of a matrix's first k columns with a register. -/
def mulTo (m : List (BitVec 32)) (x : BitVec 32) : Nat → BitVec 32
  | 0 => 0#32
  | k + 1 => mulTo m x k ^^^ (if x.getLsbD k then m.getD k 0#32 else 0#32)
def mul (m : List (BitVec 32)) (x : BitVec 32) : BitVec 32 := mulTo m x 32
theorem col_num (p x c : BitVec 32) : bits .xor .u32 (p.toNat : Int) (bits .and .u32 (x.toNat : Int) 1 * (c.toNat : Int) % 4294967296) = ((p ^^^ (if x.getLsbD 0 then c else 0#32)).toNat : Int) := by
  have hx := x.isLt
  have hc := c.isLt
  have h1 : bits .and .u32 (x.toNat : Int) 1 = ((x.toNat % 2 : Nat) : Int) := by
    rw [show (1 : Int) = ((1 : Nat) : Int) from rfl, u32_and_nat _ _ (by omega) (by omega), Nat.and_one_is_mod]
  have e : x.getLsbD 0 = decide (x.toNat % 2 = 1) := by
    unfold BitVec.getLsbD; rw [Nat.testBit_zero]
  have h2 : ((x.toNat % 2 : Nat) : Int) * (c.toNat : Int) % 4294967296 = ((if x.getLsbD 0 then c else 0#32).toNat : Int) := by
    rw [e]
    rcases Nat.mod_two_eq_zero_or_one x.toNat with h | h <;> rw [h] <;> simp <;> omega
  rw [h1, h2, xor32]

set_option maxRecDepth 100000 in
set_option maxHeartbeats 1000000 in
theorem times_any (g : Nat) (t : TypeId) (m : List (BitVec 32)) (hm : m.length = 32) (x : BitVec 32) (w : World) (hg : BoxN w g t (matRow m)) :
    Calls Try.prog 19 #[.pointer (some ⟨g, 0, none⟩), U32 x] w fun e w' => e = .returned (U32 (mul m x)) ∧ w' = w := by
  have hgl := hg.lt
  have Hg := Lib.hid hg
  have Hm := Lib.hid hm
  clear hg hm
  go_enter Try.func19, Try.ntmps19
  go_wp2_with fail
  go_loop [1, 5, 9] (fun r p i => ∃ k : Nat, k ≤ 32 ∧ i = .int .i64 k ∧ r = U32 (x >>> k) ∧ p = U32 (mulTo m x k)) (fun _ _ i => 32 - (intOf i).toNat)
  case atStart => exact ⟨0, by omega, rfl, by simp, rfl⟩
  case round =>
    obtain ⟨k, hk, rfl, rfl, rfl⟩ := hrel
    by_cases hlt : k < 32
    · have hc := Hg.out.cell k
      have hgk : m[k]? = some (m[k]'(by rw [Hm.out]; exact hlt)) := List.getElem?_eq_getElem _
      have hcol : Hid (mulTo m x (k + 1) = mulTo m x k ^^^ (if (x >>> k).getLsbD 0 then m.getD k 0#32 else 0#32)) := by
        unfold Hid; rw [mulTo, BitVec.getLsbD_ushiftRight]; rfl
      have hsh : Hid (x >>> (k + 1) = x >>> k >>> 1) := by unfold Hid; rw [BitVec.shiftRight_add]
      rw [List.getD_eq_getElem?_getD, hgk] at hcol
      have hc' : w.cell? ⟨g, k, none⟩ = some (U32 (m[k]'(by rw [Hm.out]; exact hlt))) := by
        rw [hc, matRow, List.getElem?_toArray, List.getElem?_map, hgk]; rfl
      clear hc hgk
      generalize m[k]'(by rw [Hm.out]; exact hlt) = c at hc' hcol
      simp only [Option.getD_some] at hcol
      have hn : Hid (bits .xor .u32 ((mulTo m x k).toNat : Int) (bits .and .u32 ((x >>> k).toNat : Int) 1 * (c.toNat : Int) % 4294967296) = ((mulTo m x (k + 1)).toNat : Int)) := by
        unfold Hid; rw [hcol.out]; exact col_num (mulTo m x k) (x >>> k) c
      have hs : Hid (((x >>> k).toNat : Int) / 2 = ((x >>> (k + 1)).toNat : Int)) := by
        unfold Hid; rw [hsh.out, BitVec.toNat_ushiftRight _ 1, Nat.shiftRight_eq_div_pow]; omega
      have hxl := (x >>> k).isLt
      obtain ⟨x', hx'⟩ : ∃ x', x >>> (k + 1) = x' := ⟨_, rfl⟩
      rw [hx'] at hs
      have HX := Lib.hid hx'
      clear hx' hsh hcol
      generalize x >>> k = xk at hn hs hxl ⊢
      go_wp2_with fail
      refine ⟨⟨k + 1, by omega, by go_num, ?_, ?_⟩, by simp [intOf]; omega⟩
      · rw [hs.out, HX.out]
      · rw [hn.out]
    · obtain rfl : k = 32 := by omega
      go_wp2_with fail
      go_ret
      exact ⟨rfl, rfl⟩
end Go.Proofs.Ytjlnaihlndmlfab
