/- What the walk of SignVerifies knows of its callees, for one key: all of it over variables. -/
import Derived.Test.YtaoipbndmfjmhaaSame
import Derived.Test.YtaoipbndmfjmhaaSigner4
import Derived.Test.YtaoipbndmfjmhaaDecOk
import Derived.Test.YtaoipbndmfjmhaaAdvLaw
namespace Go.Proofs.Ytaoipbndmfjmhaa
open Go.RowKit Go.Joins
namespace Vfy
theorem okK_of (q h : Nat) (hh : h ≤ 6) (hq : q < 2 ^ h) : okK (q : Int) (h : Int) = true := by
  unfold okK; rw [Int.toNat_natCast]
  have : ((2 ^ h : Nat) : Int) = (2 : Int) ^ h := Int.natCast_pow 2 h
  simp; omega
theorem kit (seed z : BitVec 64) (h u : Nat) (hh : h ≤ 6) (hu : u < 2 ^ h) : ∃ (T : Option Addr → Nat → Array Value) (PV : List (BitVec 64)) (D : Nat) (EB : List (BitVec 8)), D ≤ 100000 ∧
    (∀ G c, (T G c).size = 20 ∧ (T G c).all (·.oneCell') = true ∧ (T G c)[0]? = some (.int .i64 u)) ∧
    (∀ (g : Nat) (W : World), BoxN W g 63 (SgC true seed h u) → Calls Try.prog 32 #[.pointer (some ⟨g, 0, none⟩), U64 z] W fun e w' => ∃ G c, e = .returned (.tuple #[.agg (T G c), .int .i64 0]) ∧ isQ G PV w' ∧ BoxN w' g 63 (SgC true seed h (u + 1)) ∧ Below g W w') ∧
    (∀ W : World, Calls Try.prog 18 #[U64 seed, .int .i64 h, .int .i64 u, U64 z] W fun e w' => ∃ G c, e = .returned (.tuple #[.agg (T G c), .int .i64 0]) ∧ isQ G PV w' ∧ Below W.heap.size W w') ∧
    (∀ (G : Option Addr) (c : Nat) (W : World), isQ G PV W → Calls Try.prog 23 #[.agg (T G c)] W fun e w' => ∃ G' c', e = .returned (.tuple #[.slice G' D c', .int .i64 0]) ∧ isB G' EB w' ∧ Below W.heap.size W w' ∧ D ≤ c') ∧
    (∀ (A : Option Addr) (cap : Nat) (W : World), D ≤ cap → isB A EB W → Calls Try.prog 25 #[.slice A D cap] W fun e w' => ∃ G c, e = .returned (.tuple #[.agg (T G c), .int .i64 0]) ∧ isQ G PV w' ∧ Below W.heap.size W w') ∧
    (∀ (G1 : Option Addr) (c1 : Nat) (G2 : Option Addr) (c2 : Nat) (W : World), isQ G1 PV W → isQ G2 PV W → Calls Try.prog 20 #[.agg (T G1 c1), .agg (T G2 c2)] W fun e w' => e = .returned (.bool true) ∧ Below W.heap.size W w') ∧
    (∀ (G : Option Addr) (c : Nat) (W : World), isQ G PV W → Calls Try.prog 27 #[U64 (rootV seed h), .int .i64 h, U64 z, .agg (T G c)] W fun e w' => e = .returned (.bool true) ∧ Below W.heap.size W w') := by
  have hk := okK_of u h hh hu
  have hp := pathV_len seed h u
  refine ⟨fun G c => sgA u (chainV seed z u) (.slice G h c), pathV seed h u, 146 + 8 * h, encB u (chainV seed z u) (pathV seed h u), by omega, fun G c => ⟨sgA_size _ _ _, sgA_one _ _ _ rfl, sgA_key _ _ _⟩, fun g W hb => msign_ok g seed z h u hh hu W hb, fun W => sign_ok seed z h u hh hu W, fun G c W hq => ?_, fun A cap W hc hb => ?_, fun G1 c1 G2 c2 W h1 h2 => ?_, fun G c W hq => ?_⟩
  · have := encode_okC u (chainV seed z u) G c (pathV seed h u) (by rw [hp]; exact hk) W hq
    rwa [hp] at this
  · have := decode_ok A cap u (chainV seed z u) (pathV seed h u) (by rw [hp]; exact hk) (by rw [hp]; exact hc) W hb
    rwa [hp] at this
  · have := same_any u u (chainV seed z u) (chainV seed z u) G1 G2 c1 c2 (pathV seed h u) (pathV seed h u) (by rw [hp]; omega) W h1 h2
    rw [hp, show sameB u (chainV seed z u) (pathV seed h u) u (chainV seed z u) (pathV seed h u) = true by simp [sameB]] at this
    exact this
  · have := verify_yes (rootV seed h) z h u (chainV seed z u) G c (pathV seed h u) hp hh hu W hq
    rw [ver_sign seed z h u hu, decide_eq_true rfl] at this
    exact this
end Vfy
end Go.Proofs.Ytaoipbndmfjmhaa
