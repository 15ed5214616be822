/- The contract of the closure that adds a byte. -/
import Derived.Test.YtaoipbndmfjmhaaBase
namespace Go.Proofs.Ytaoipbndmfjmhaa
open Go.RowKit Go.Joins

theorem xor64 (x y : BitVec 64) : bits .xor .u64 (x.toNat : Int) (y.toNat : Int) = ((x ^^^ y).toNat : Int) := by
  have := x.isLt
  have := y.isLt
  rw [u64_xor_nat _ _ (by omega) (by omega), BitVec.toNat_xor]
theorem or64 (x y : BitVec 64) : bits .or .u64 (x.toNat : Int) (y.toNat : Int) = ((x ||| y).toNat : Int) := by
  have := x.isLt
  have := y.isLt
  rw [u64_or_nat _ _ (by omega) (by omega), BitVec.toNat_or]
theorem and64 (x y : BitVec 64) : bits .and .u64 (x.toNat : Int) (y.toNat : Int) = ((x &&& y).toNat : Int) := by
  have := x.isLt
  have := y.isLt
  rw [u64_and_nat _ _ (by omega) (by omega), BitVec.toNat_and]
theorem wrapU (n : Nat) : IntKind.u64.wrap (n : Int) = ((BitVec.ofNat 64 n).toNat : Int) := by
  simp only [IntKind.wrap, IntKind.signed, IntKind.bits, Bool.false_and, Bool.false_eq_true, if_false, BitVec.toNat_ofNat, Int.natCast_emod]
  rfl
/-- Sums, differences and shifts, as the walk writes them. -/
theorem add64 (x y : BitVec 64) : IntKind.u64.wrap ((x.toNat : Int) + (y.toNat : Int)) = ((x + y).toNat : Int) := by
  rw [← Int.natCast_add, wrapU, BitVec.toNat_ofNat, BitVec.toNat_add]
theorem shl64 (x : BitVec 64) (k : Nat) (c : Int) (hc : c = ((2 ^ k : Nat) : Int)) : IntKind.u64.wrap ((x.toNat : Int) * c) = ((x <<< k).toNat : Int) := by
  rw [hc, ← Int.natCast_mul, wrapU, BitVec.toNat_ofNat, BitVec.toNat_shiftLeft, Nat.shiftLeft_eq]
theorem shr64 (x : BitVec 64) (k : Nat) (c : Int) (hc : c = ((2 ^ k : Nat) : Int)) : (x.toNat : Int) / c = ((x >>> k).toNat : Int) := by
  rw [hc, ← Int.natCast_ediv, BitVec.toNat_ushiftRight, Nat.shiftRight_eq_div_pow]
theorem wide (v : BitVec 8) : (v.toNat : Int) = ((v.setWidth 64).toNat : Int) := by
  rw [BitVec.toNat_setWidth]
  have := v.isLt
  omega
/-- A whole number as the program has it. -/
abbrev I64 (n : BitVec 64) : Value := .int .i64 n.toInt
theorem wrap_int (n : BitVec 64) (k : Int) : wrap64 (n.toInt + k) = (n + BitVec.ofInt 64 k).toInt := by
  have e : wrap64 (n.toInt + k) = (n.toInt + k).bmod (2 ^ 64) := by
    unfold wrap64
    rw [Int.bmod_def]
    have h : ((2 ^ 64 : Nat) : Int) = 18446744073709551616 := by decide
    rw [h]
    split <;> omega
  rw [e, BitVec.toInt_add, BitVec.toInt_ofInt, Int.add_bmod_bmod]

/-- Nothing but the block B has turned. -/
structure Tn (B : Nat) (w w' : World) : Prop where
  below : ∀ n0, n0 ≤ B → Below n0 w w'
  far : ∀ k, k ≠ B → w'.heap[k]? = w.heap[k]?
theorem Tn.refl (B : Nat) (w : World) : Tn B w w := ⟨fun _ _ => Below.refl _ _, fun _ _ => rfl⟩
theorem Tn.set {B : Nat} {w w' : World} (h : Tn B w w') (i : Nat) (v : Value) : Tn B w (w'.setCell ⟨B, i, none⟩ v) :=
  ⟨fun n0 hn => (h.below n0 hn).setCell hn v, fun k hk => (Below.heap_setCell w' ⟨B, i, none⟩ v k hk).trans (h.far k hk)⟩
theorem BoxN.tn {W W' : World} {B b : Nat} {t : TypeId} {cs : Array Value} (h : BoxN W b t cs) (hk : Tn B W W') (hb : b ≠ B) : BoxN W' b t cs := (hk.far b hb).trans h

set_option maxRecDepth 100000 in
set_option maxHeartbeats 300000 in
theorem add1_any (B : Nat) (s n : BitVec 64) (v : BitVec 8) (w : World) (hx : BoxN w B 88 #[U64 s, I64 n]) :
    Calls Try.prog 63 #[U8 v, .pointer (some ⟨B, 0, none⟩)] w fun e w' => e = .returned (.tuple #[]) ∧ BoxN w' B 88 #[U64 (addB s v), I64 (n + 1#64)] ∧ Tn B w w' := by
  have hc := hx.cell 0
  have hc1 := hx.cell 1
  have hf := hx.frozen 0
  have hf1 := hx.frozen 1
  have hb := hx.lt
  simp at hc hc1
  have h1 : bits .xor .u64 (s.toNat : Int) (v.toNat : Int) = ((mixB s v).toNat : Int) := by rw [wide, xor64]; rfl
  obtain ⟨x, hx1⟩ : ∃ x, mixB s v = x := ⟨_, rfl⟩
  rw [hx1] at h1
  have h2 : IntKind.u64.wrap ((x.toNat : Int) + IntKind.u64.wrap ((x.toNat : Int) * 268435456)) = ((mulB x).toNat : Int) := by
    rw [shl64 x 28 268435456 (by decide), add64]; rfl
  obtain ⟨y, hy⟩ : ∃ y, mulB x = y := ⟨_, rfl⟩
  rw [hy] at h2
  have h3 : bits .or .u64 (IntKind.u64.wrap ((y.toNat : Int) * 1048576)) ((y.toNat : Int) / 17592186044416) = ((rotB y).toNat : Int) := by
    rw [shl64 y 20 1048576 (by decide), shr64 y 44 17592186044416 (by decide), or64]; rfl
  have h4 : wrap64 (n.toInt + 1) = (n + 1#64).toInt := by
    have h := wrap_int n 1
    rwa [show BitVec.ofInt 64 1 = 1#64 by decide] at h
  obtain ⟨m, hm⟩ : ∃ m, n + 1#64 = m := ⟨_, rfl⟩
  rw [hm] at h4
  have Hm : Hid (n + 1#64 = m) := hm
  have hr : Hid (addB s v = rotB y) := by unfold Hid addB; rw [hx1, hy]
  generalize addB s v = r at hr
  obtain rfl := hr.out
  generalize rotB y = r at h3 ⊢
  clear hx1 hy hr hm
  rw [Hm.out]
  go_enter Try.func63, Try.ntmps63
  go_wp2_with fail
  go_end0
  refine ⟨rfl, ?_, ((((Tn.refl B w).set 0 _).set 0 _).set 0 _).set 1 _⟩
  exact (((hx.set1 0 (U64 x)).set1 0 (U64 y)).set1 0 (U64 r)).set1 1 (I64 m)
end Go.Proofs.Ytaoipbndmfjmhaa
