/- What a slice of ints that came in gives. -/
import Derived.Test.YtbpncbomcdpogaaFrame
import Derived.Test.YtbpncbomcdpogaaBlanks
namespace Go.Proofs.Ytbpncbomcdpogaa
open Go.ChangeShapes Go.WideShapes Go.ChangeAt Go.RowKit Go.Joins

theorem cellsI1 : Try.prog.cellsOf 3 = 1 := by kernel_rfl

set_option maxRecDepth 100000 in
theorem open_isI {H : Type} {enc : TypeId × Value → H} {W : World} {base : Nat} {v1 : Value} {d1 : DataW H} {p1 : List MemPlace} (hval : Value.okWide Try.prog W .any base 36 v1) (h1 : DataW.Trod enc Try.prog W 0 (fun _ => true) true 36 v1 d1 p1) :
    ∃ (A : Option Addr) (cap : Nat) (l : List Int), v1 = .slice A l.length cap ∧ isI A l W := by
  obtain ⟨a1, len, cap, rfl⟩ := okWide_slice Try.underlying36 hval
  obtain ⟨fuel, hf⟩ := h1
  rcases open_ints Try.underlying36 Try.underlying3 cellsI1 hf with ⟨hcs, hx⟩ | ⟨a, len', cap', zs, hcs, _, hl, hm, hz, hx, hcell, hwz⟩
  · simp [Value.cells] at hcs
    obtain ⟨rfl, rfl, rfl⟩ := hcs
    exact ⟨none, 0, [], rfl, fun h => absurd rfl h⟩
  · simp [Value.cells] at hcs
    obtain ⟨rfl, rfl, rfl⟩ := hcs
    simp only [if_true] at hz
    have hlen : (zs.take len).length = len := by rw [List.length_take]; omega
    refine ⟨some a, cap, zs.take len, by rw [hlen], fun hne => ?_⟩
    have hpos : 0 < zs.length := by
      have := List.length_pos_iff.2 hne
      omega
    obtain ⟨ab, ao, spot⟩ := a
    have hspot : spot = none := by simpa [Addr.add] using World.cell?_spot (hcell 0 hpos)
    subst hspot
    have hb : ab < W.heap.size := by
      have := hcell 0 hpos
      rw [Addr.add_lit] at this
      rcases Nat.lt_or_ge ab W.heap.size with h | h
      · exact h
      · simp [World.cell?, Array.getElem?_eq_none h] at this
    refine ⟨ab, ao, rfl, hb, fun k z hk => ?_⟩
    have hk' : k < len := by rw [← hlen]; exact (List.getElem?_eq_some_iff.1 hk).1
    have hzk : zs[k]? = some z := by
      rw [List.getElem?_take, if_pos hk'] at hk
      exact hk
    have := hcell k (by have := (List.getElem?_eq_some_iff.1 hzk).1; omega)
    rw [Addr.add_lit] at this
    rw [this, List.getD_eq_getElem?_getD, hzk]; rfl
end Go.Proofs.Ytbpncbomcdpogaa
