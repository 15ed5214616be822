/- What the walk of SignForm knows of its callees, for a signature that has an encoding. -/
import Derived.Test.YtaoipbndmfjmhaaFmC
namespace Go.Proofs.Ytaoipbndmfjmhaa
open Go.RowKit Go.Joins
namespace Fm
theorem encB_zero (q : Int) (f : Nat → BitVec 64) (l : List (BitVec 64)) : (encB q f l)[0]? = some (lo8 q) := rfl
theorem encB_one (q : Int) (f : Nat → BitVec 64) (l : List (BitVec 64)) : (encB q f l)[1]? = some (lo8 (l.length : Int)) := rfl
theorem kit (m n : Nat) (f : Nat → BitVec 64) (l : List (BitVec 64)) (hn : l.length = n) (hk : okK (m : Int) (n : Int) = true) :
    ∃ (T : Option Addr → Nat → Array Value) (EB : List (BitVec 8)) (D : Nat), D = 146 + 8 * n ∧ EB.length = D ∧
    (∀ G c, T G c = sgA (m : Int) f (.slice G n c)) ∧
    (∀ (G : Option Addr) (c : Nat) (W : World), isQ G l W → Calls Try.prog 23 #[.agg (T G c)] W fun e w' => ∃ G' c', e = .returned (.tuple #[.slice G' D c', .int .i64 0]) ∧ isB G' EB w' ∧ Below W.heap.size W w' ∧ D ≤ c') ∧
    (∀ (A : Option Addr) (cap : Nat) (W : World), D ≤ cap → isB A EB W → Calls Try.prog 25 #[.slice A D cap] W fun e w' => ∃ G c, e = .returned (.tuple #[.agg (T G c), .int .i64 0]) ∧ isQ G l w' ∧ Below W.heap.size W w') ∧
    (∀ (A : Option Addr) (cap k r : Nat) (W : World), 0 < k → k ≤ 20 → r + k = D → D ≤ cap → isB A EB W → Calls Try.prog 25 #[.slice A r cap] W fun e w' => e = .returned (.tuple #[.agg #[.int .i64 0, .int .u64 0, .int .u64 0, .int .u64 0, .int .u64 0, .int .u64 0, .int .u64 0, .int .u64 0, .int .u64 0, .int .u64 0, .int .u64 0, .int .u64 0, .int .u64 0, .int .u64 0, .int .u64 0, .int .u64 0, .int .u64 0, .int .u64 0, .int .u64 0, .slice none 0 0], .int .i64 60]) ∧ Below W.heap.size W w') ∧
    (∀ (A : Option Addr) (cap k : Nat) (W : World), 0 < k → k ≤ 20 → D + k ≤ cap → isB A (EB ++ List.replicate k 0#8) W → Calls Try.prog 25 #[.slice A (D + k) cap] W fun e w' => e = .returned (.tuple #[.agg #[.int .i64 0, .int .u64 0, .int .u64 0, .int .u64 0, .int .u64 0, .int .u64 0, .int .u64 0, .int .u64 0, .int .u64 0, .int .u64 0, .int .u64 0, .int .u64 0, .int .u64 0, .int .u64 0, .int .u64 0, .int .u64 0, .int .u64 0, .int .u64 0, .int .u64 0, .slice none 0 0], .int .i64 60]) ∧ Below W.heap.size W w') ∧
    (∀ (G1 : Option Addr) (c1 : Nat) (G2 : Option Addr) (c2 : Nat) (W : World), isQ G1 l W → isQ G2 l W → Calls Try.prog 20 #[.agg (T G1 c1), .agg (T G2 c2)] W fun e w' => e = .returned (.bool true) ∧ Below W.heap.size W w') := by
  have hn6 := okK_len hk
  have hm : m ≤ 255 := by
    unfold okK at hk
    have h1 := (of_decide_eq_true hk).2.2
    rw [Int.toNat_natCast] at h1
    have h2 : ((2 ^ n : Nat) : Int) = (2 : Int) ^ n := Int.natCast_pow 2 n
    have h3 : 2 ^ n ≤ 2 ^ 6 := Nat.pow_le_pow_right (by decide) hn6
    omega
  have hlen : (encB (m : Int) f l).length = 146 + 8 * n := by rw [encB_len, hn]
  refine ⟨fun G c => sgA (m : Int) f (.slice G n c), encB (m : Int) f l, 146 + 8 * n, rfl, hlen, fun G c => rfl, fun G c W hq => ?_, fun A cap W hc hb => ?_, fun A cap k r W h0 h20 hr hc hb => ?_, fun A cap k W h0 h20 hc hb => ?_, fun G1 c1 G2 c2 W h1 h2 => ?_⟩
  · have := encode_okC (m : Int) f G c l (by rw [hn]; exact hk) W hq
    rwa [hn] at this
  · have := decode_ok A cap m f l (by rw [hn]; exact hk) (by rw [hn]; exact hc) W hb
    rwa [hn] at this
  · have hl : ((encB (m : Int) f l).take r).length = r := by rw [List.length_take, hlen]; omega
    have hb2 : isB A ((encB (m : Int) f l).take r) W := fun hne => by
      obtain ⟨b, off, e, h1, h2⟩ := hb (by intro e; rw [e, List.length_nil] at hlen; omega)
      refine ⟨b, off, e, h1, fun j z hj => ?_⟩
      have hj2 : j < r := by rw [← hl]; exact (List.getElem?_eq_some_iff.1 hj).1
      rw [List.getElem?_take, if_pos hj2] at hj
      exact h2 j z hj
    have := decode_len A cap ((encB (m : Int) f l).take r) m n hm hn6 (by rw [List.getElem?_take, if_pos (by omega)]; rfl) (by rw [List.getElem?_take, if_pos (by omega), encB_one, hn]) hk (by rw [hl]; omega) (by rw [hl]; omega) (by rw [hl]; omega) (by rw [hl]; omega) W hb2
    rwa [hl] at this
  · have hl : (encB (m : Int) f l ++ List.replicate k 0#8).length = 146 + 8 * n + k := by rw [List.length_append, hlen, List.length_replicate]
    have := decode_len A cap (encB (m : Int) f l ++ List.replicate k 0#8) m n hm hn6 (by rw [List.getElem?_append_left (by omega)]; rfl) (by rw [List.getElem?_append_left (by omega), encB_one, hn]) hk (by rw [hl]; omega) (by rw [hl]; omega) (by rw [hl]; omega) (by rw [hl]; omega) W hb
    rwa [hl] at this
  · have := same_any (m : Int) (m : Int) f f G1 G2 c1 c2 l l (by omega) W h1 h2
    rw [hn, show sameB (m : Int) f l (m : Int) f l = true by simp [sameB]] at this
    exact this
end Fm
end Go.Proofs.Ytaoipbndmfjmhaa
