/- What words that came in give. -/
import Derived.Test.YtaoipbndmfjmhaaFrame
import Derived.Test.YtaoipbndmfjmhaaBof
namespace Go.Proofs.Ytaoipbndmfjmhaa
open Go.ChangeShapes Go.WideShapes Go.ChangeAt Go.RowKit Go.Joins
theorem cellsU64 : Try.prog.cellsOf 22 = 1 := by kernel_rfl
theorem ints_bq : ∀ {l : List Int}, (∀ z ∈ l, 0 ≤ z ∧ z ≤ 18446744073709551615) → ∃ m : List (BitVec 64), l = m.map fun b => (b.toNat : Int)
  | [], _ => ⟨[], rfl⟩
  | z :: l, h => by
    obtain ⟨m, hm⟩ := ints_bq (l := l) fun y hy => h y (List.mem_cons_of_mem _ hy)
    obtain ⟨h1, h2⟩ := h z List.mem_cons_self
    obtain ⟨b, hb⟩ := int_bv (n := 64) h1 (by omega)
    exact ⟨b :: m, by rw [hm, hb]; rfl⟩
/-- Words that came in. -/
structure DataQ (W : World) (A : Option Addr) (cap : Nat) (l : List (BitVec 64)) : Prop where
  row : isQ A l W
  len : l.length ≤ cap
  cap : cap ≤ 9223372036854775807

set_option maxRecDepth 100000 in
/-- What a slice of words that came in gives. -/
theorem open_words {H : Type} {enc : TypeId × Value → H} {W : World} {base : Nat} {v1 : Value} {d1 : DataW H} {p1 : List MemPlace} (hval : Value.okWide Try.prog W .any base 32 v1) (h1 : DataW.Trod enc Try.prog W 0 (fun _ => true) true 32 v1 d1 p1) :
    ∃ (A : Option Addr) (cap : Nat) (l : List (BitVec 64)), v1 = .slice A l.length cap ∧ DataQ W A cap l := by
  obtain ⟨a1, len, cap, rfl⟩ := okWide_slice Try.underlying32 hval
  obtain ⟨fuel, hf⟩ := h1
  rcases open_ints Try.underlying32 Try.underlying22 cellsU64 hf with ⟨hcs, hx⟩ | ⟨a, len', cap', zs, hcs, _, hl, hm, hz, hx, hcell, hwz⟩
  · simp [Value.cells] at hcs
    obtain ⟨rfl, rfl, rfl⟩ := hcs
    exact ⟨none, 0, [], rfl, ⟨isQ.nil _ _, by simp, by omega⟩⟩
  · simp [Value.cells] at hcs
    obtain ⟨rfl, rfl, rfl⟩ := hcs
    simp only [if_true] at hz
    have hlen : (zs.take len).length = len := by rw [List.length_take]; omega
    obtain ⟨m, hm2⟩ := ints_bq (l := zs.take len) fun z h => by
      have hw := hwz z (List.mem_of_mem_take h)
      have := bounds_u64 hw
      omega
    have hml : m.length = len := by rw [← hlen, hm2, List.length_map]
    refine ⟨some a, cap, m, by rw [hml], ⟨fun hne => ?_, by omega, by unfold maxLen at hm; omega⟩⟩
    have hpos : 0 < zs.length := by
      have := List.length_pos_iff.2 hne
      omega
    obtain ⟨ab, ao, spot⟩ := a
    have hspot : spot = none := by simpa [Addr.add] using World.cell?_spot (hcell 0 hpos)
    subst hspot
    have hb : ab < W.heap.size := by
      have := hcell 0 hpos
      rw [Addr.add_lit] at this
      rcases Nat.lt_or_ge ab W.heap.size with h | h
      · exact h
      · simp [World.cell?, Array.getElem?_eq_none h] at this
    refine ⟨ab, ao, rfl, hb, fun k z hk => ?_⟩
    have hk' : k < len := by rw [← hml]; exact (List.getElem?_eq_some_iff.1 hk).1
    have hzk : zs[k]? = some (z.toNat : Int) := by
      have h2 : (zs.take len)[k]? = some (z.toNat : Int) := by rw [hm2, List.getElem?_map, hk]; rfl
      rw [List.getElem?_take, if_pos hk'] at h2
      exact h2
    have := hcell k (by omega)
    rw [Addr.add_lit] at this
    rw [this, List.getD_eq_getElem?_getD, hzk]; rfl
end Go.Proofs.Ytaoipbndmfjmhaa
