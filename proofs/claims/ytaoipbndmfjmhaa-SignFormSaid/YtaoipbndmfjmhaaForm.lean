/- SignForm: its pieces put together. -/
import Derived.Test.YtaoipbndmfjmhaaFmB
import Derived.Test.YtaoipbndmfjmhaaFmE
import Derived.Test.YtaoipbndmfjmhaaFmG
import Derived.Test.YtaoipbndmfjmhaaFmH
import Derived.Test.YtaoipbndmfjmhaaSFrame
namespace Go.Proofs.Ytaoipbndmfjmhaa
open Go.RowKit Go.Joins
namespace Fm
theorem walk (root ht d q : Int) (f : Nat → BitVec 64) (A : Option Addr) (cap : Nat) (l : List (BitVec 64)) (cb : Int) (w : World) (hr0 : 0 ≤ root) (hr1 : root ≤ 18446744073709551615) (_ : -9223372036854775808 ≤ ht) (_ : ht ≤ 9223372036854775807) (hd0 : 0 ≤ d) (hd1 : d ≤ 18446744073709551615) (hl : DataQ w A cap l) (hc0 : 0 ≤ cb) (hc1 : cb ≤ 255) :
    Calls Try.prog 8 #[.int .u64 root, .int .i64 ht, .int .u64 d, .agg (sgA q f (.slice A l.length cap)), .int .u8 cb] w fun r w' => r = .returned (.bool true) ∧ Below w.heap.size w w' := by
  obtain ⟨root, rfl⟩ := int_bv (n := 64) hr0 (by omega)
  obtain ⟨d, rfl⟩ := int_bv (n := 64) hd0 (by omega)
  obtain ⟨cb, rfl⟩ := Int.eq_ofNat_of_zero_le hc0
  exact step.run ⟨shaped⟩ ⟨after.run ⟨own'.run ⟨ownA⟩ ⟨ownB⟩ ⟨trivial⟩ ⟨trivial⟩⟩ ⟨notown.run ⟨notA2⟩ ⟨trivial⟩ ⟨trivial⟩ ⟨trivial⟩⟩ ⟨trivial⟩ ⟨trivial⟩⟩ ⟨trivial⟩ ⟨trivial⟩ root d ht q f A cap l cb (by omega) w hl.row (Nat.le_trans hl.len hl.cap)
end Fm
end Go.Proofs.Ytaoipbndmfjmhaa
