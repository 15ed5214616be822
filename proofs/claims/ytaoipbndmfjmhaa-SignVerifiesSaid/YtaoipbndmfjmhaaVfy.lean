/- SignVerifies: its pieces put together. -/
import Derived.Test.YtaoipbndmfjmhaaVfyC
import Derived.Test.YtaoipbndmfjmhaaVfyD
import Derived.Test.YtaoipbndmfjmhaaQFrame
namespace Go.Proofs.Ytaoipbndmfjmhaa
open Go.RowKit Go.Joins
namespace Vfy
theorem law (seed : BitVec 64) (hb : Nat) (h255 : hb ≤ 255) (A : Option Addr) (cap : Nat) (ds : List (BitVec 64)) (hcap : ds.length ≤ cap) (hlen : ds.length ≤ 9223372036854775807) (w : World) (hds : isQ A ds w) :
    Calls Try.prog 5 #[U64 seed, .int .u8 hb, .slice A ds.length cap] w fun r w' => r = .returned (.bool true) ∧ Below w.heap.size w w' :=
  step.run ⟨round.run ⟨left⟩ ⟨used⟩ ⟨trivial⟩⟩ ⟨trivial⟩ ⟨trivial⟩ seed hb h255 A cap ds hcap hlen w hds
theorem walk (seed hb : Int) (A : Option Addr) (cap : Nat) (ds : List (BitVec 64)) (w : World) (hs0 : 0 ≤ seed) (hs1 : seed ≤ 18446744073709551615) (h0 : 0 ≤ hb) (h1 : hb ≤ 255) (hd : DataQ w A cap ds) :
    Calls Try.prog 5 #[.int .u64 seed, .int .u8 hb, .slice A ds.length cap] w fun r w' => r = .returned (.bool true) ∧ Below w.heap.size w w' := by
  obtain ⟨seed, rfl⟩ := int_bv (n := 64) hs0 (by omega)
  obtain ⟨hb, rfl⟩ := Int.eq_ofNat_of_zero_le h0
  exact law seed hb (by omega) A cap ds hd.len (Nat.le_trans hd.len hd.cap) w hd.row
end Vfy
end Go.Proofs.Ytaoipbndmfjmhaa
