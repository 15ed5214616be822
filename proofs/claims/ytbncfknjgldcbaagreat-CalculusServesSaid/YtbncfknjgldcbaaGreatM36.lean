/- Merged texts: CSFrame. -/
import Derived.Test.YtbncfknjgldcbaaGreatM35
import Derived.Test.YtbncfknjgldcbaaGreatM8
import Derived.Deep.Strs
/- What a slice of frames that came in gives. -/
namespace Go.Proofs.YtbncfknjgldcbaaGreat
open Go.ChangeShapes Go.WideShapes Go.ChangeAt Go.RowKit Go.Joins

theorem cellsSn : Tryz.prog.cellsOf 85 = 3 := by kernel_rfl
theorem list3 {α : Type} {l : List α} (h : l.length = 3) : ∃ a b c, l = [a, b, c] := by
  match l, h with
  | [a, b, c], _ => exact ⟨a, b, c, rfl⟩
/-- Three cells that read as a frame. -/
theorem open_sn {H : Type} {enc : TypeId × Value → H} {W : World} {sp : Nat → Bool} {fuel : Nat} {cs : List Value} {x : DataW H × List MemPlace} (h : DataW.trod enc Tryz.prog W 0 sp true fuel 85 cs = some x) :
    ∃ y : Sn, y.bd64 ∧ cs = [.int .i64 y.t, .int .i64 y.v, .int .i64 y.s] := by
  obtain ⟨y0, y1, y2, n, -, hlen, h0, h1, h2⟩ := Deep.trod_struct3 Tryz.underlying85 h
  rw [cellsSn] at hlen
  obtain ⟨v0, v1, v2, rfl⟩ := list3 hlen
  have c1 : Tryz.prog.cellsOf 3 = 1 := by kernel_rfl
  simp only [c1, List.drop_zero, List.take_succ_cons, List.take_zero, List.drop_succ_cons] at h0 h1 h2
  obtain ⟨a, e0, -, w0⟩ := DataW.trod_int Tryz.underlying3 h0
  obtain ⟨b, e1, -, w1⟩ := DataW.trod_int Tryz.underlying3 h1
  obtain ⟨c, e2, -, w2⟩ := DataW.trod_int Tryz.underlying3 h2
  simp only [List.cons.injEq, and_true] at e0 e1 e2
  subst e0 e1 e2
  exact ⟨⟨a, b, c⟩, ⟨bounds_i64 w0, bounds_i64 w1, bounds_i64 w2⟩, rfl⟩

set_option maxRecDepth 100000 in
theorem open_sents {H : Type} {enc : TypeId × Value → H} {W : World} {base : Nat} {v1 : Value} {d1 : DataW H} {p1 : List MemPlace} (hval : Value.okWide Tryz.prog W .any base 61 v1) (h1 : DataW.Trod enc Tryz.prog W 0 (fun _ => true) true 61 v1 d1 p1) :
    ∃ (A : Option Addr) (cap : Nat) (l : List Sn), v1 = .slice A l.length cap ∧ (∀ x ∈ l, x.bd64) ∧ isS A l W ∧ l.length ≤ 9223372036854775807 := by
  obtain ⟨a1, len, cap, rfl⟩ := okWide_slice Tryz.underlying61 hval
  obtain ⟨fuel, hf⟩ := h1
  rcases Deep.open_slice Tryz.underlying61 hf with ⟨hcs, -⟩ | ⟨a, len', cap', m, n, D, Pl, hcs, -, hl, hm, hmm, -, hel⟩
  · simp [Value.cells] at hcs
    obtain ⟨rfl, rfl, rfl⟩ := hcs
    exact ⟨none, 0, [], rfl, fun x h => absurd h List.not_mem_nil, fun h => absurd rfl h, by simp⟩
  · simp [Value.cells] at hcs
    obtain ⟨rfl, rfl, rfl⟩ := hcs
    have each : ∀ i, i < len → ∃ y : Sn, y.bd64 ∧ ∀ k, k < 3 → W.cell? (a.add (i * 3 + k)) = ([.int .i64 y.t, .int .i64 y.v, .int .i64 y.s] : List Value)[k]? := fun i hi => by
      obtain ⟨cs, g1, g2⟩ := hel i (by rw [hmm]; simp; omega)
      rw [cellsSn] at g1
      obtain ⟨-, -, hcell⟩ := World.cells?_some g1
      obtain ⟨y, hy, rfl⟩ := open_sn g2
      exact ⟨y, hy, fun k hk => by rw [← Deep.add_add]; exact hcell k hk⟩
    obtain ⟨f, hfs⟩ := Deep.choose_lt each
    refine ⟨some a, cap, (List.range len).map f, by simp, fun x hx => ?_, fun hne => ?_, by unfold maxLen at hm; simp; omega⟩
    · obtain ⟨i, hi, rfl⟩ := List.mem_map.1 hx
      exact (hfs i (List.mem_range.1 hi)).1
    · have hpos : 0 < len := by
        rcases Nat.eq_zero_or_pos len with h | h
        · rw [h] at hne; simp at hne
        · exact h
      obtain ⟨ab, ao, spot⟩ := a
      have h0 := (hfs 0 hpos).2 0 (by decide)
      simp only [List.getElem?_cons_zero] at h0
      have hspot : spot = none := by simpa [Addr.add] using World.cell?_spot h0
      subst hspot
      rw [Addr.add_lit] at h0
      have hb : ab < W.heap.size := by
        rcases Nat.lt_or_ge ab W.heap.size with h | h
        · exact h
        · simp [World.cell?, Array.getElem?_eq_none h] at h0
      refine ⟨ab, ao, rfl, hb, fun j x hx => ?_⟩
      rw [List.getElem?_map] at hx
      obtain ⟨i, hi, rfl⟩ := Option.map_eq_some_iff.1 hx
      obtain ⟨hil, rfl⟩ := List.getElem?_eq_some_iff.1 hi
      rw [List.length_range] at hil
      simp only [List.getElem_range]
      have hc := (hfs j hil).2
      refine ⟨?_, ?_, ?_⟩
      · have := hc 0 (by decide); rw [Addr.add_lit] at this; simpa using this
      · have := hc 1 (by decide); rw [Addr.add_lit, ← Nat.add_assoc] at this; simpa using this
      · have := hc 2 (by decide); rw [Addr.add_lit, ← Nat.add_assoc] at this; simpa using this
end Go.Proofs.YtbncfknjgldcbaaGreat
