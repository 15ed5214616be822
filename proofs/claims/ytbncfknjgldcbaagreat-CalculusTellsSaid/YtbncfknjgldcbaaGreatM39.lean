/- Merged texts: TFrame. -/
import Derived.Test.YtbncfknjgldcbaaGreatM38
import Derived.Test.YtbncfknjgldcbaaGreatM8
/- What a slice of curves that came in gives. -/
namespace Go.Proofs.YtbncfknjgldcbaaGreat
open Go.ChangeShapes Go.WideShapes Go.ChangeAt Go.RowKit Go.Joins

theorem cellsCv : Tryz.prog.cellsOf 23 = 1 := by kernel_rfl
/-- The slice holds curves as they may come in, of any length. -/
structure isLW (A : Option Addr) (cs : List (List Bk)) (W : World) : Prop where
  bd : ∀ c ∈ cs, ∀ x ∈ c, x.bd64
  vs : ∃ vs : List Value, vs.length = cs.length ∧ isV A vs W ∧ ∀ (j : Nat) (v : Value) (c : List Bk), vs[j]? = some v → cs[j]? = some c → ∃ B cap, v = .slice B c.length cap ∧ SlR W.heap.size W (.slice B c.length cap) c
theorem isLW.row {A : Option Addr} {cs : List (List Bk)} {W : World} (h : isLW A cs W) (hl : ∀ c ∈ cs, c.length ≤ 40) : isLR A cs W := ⟨fun c hc => ⟨by have := hl c hc; omega, h.bd c hc⟩, h.vs⟩

set_option maxRecDepth 100000 in
/-- A cell that reads as a curve. -/
theorem curve_cell {H : Type} {enc : TypeId × Value → H} {W : World} {fuel : Nat} {v1 : Value} {x : DataW H × List MemPlace} (hf : DataW.trod enc Tryz.prog W 0 (fun _ => true) true fuel 23 [v1] = some x) :
    ∃ (A : Option Addr) (cap : Nat) (c : List Bk), v1 = .slice A c.length cap ∧ (∀ x ∈ c, x.bd64) ∧ SlR W.heap.size W (.slice A c.length cap) c := by
  rcases Deep.open_slice Tryz.underlying23 hf with ⟨hcs, -⟩ | ⟨a, len', cap', m, n, D, Pl, hcs, -, hl, hm, hmm, -, hel⟩
  · simp at hcs
    subst hcs
    exact ⟨none, 0, [], rfl, fun x h => absurd h List.not_mem_nil, none, 0, rfl, fun h => absurd rfl h⟩
  · simp at hcs
    subst hcs
    have each : ∀ i, i < len' → ∃ y : Bk, y.bd64 ∧ ∀ k, k < 4 → W.cell? (a.add (i * 4 + k)) = ([.int .i64 y.bn, .int .i64 y.bd, .int .i64 y.rn, .int .i64 y.rd] : List Value)[k]? := fun i hi => by
      obtain ⟨cs, g1, g2⟩ := hel i (by rw [hmm]; simp; omega)
      rw [cellsBk] at g1
      obtain ⟨-, -, hcell⟩ := World.cells?_some g1
      obtain ⟨y, hy, rfl⟩ := open_bk g2
      exact ⟨y, hy, fun k hk => by rw [← Deep.add_add]; exact hcell k hk⟩
    obtain ⟨f, hfs⟩ := Deep.choose_lt each
    refine ⟨some a, cap', (List.range len').map f, by simp, fun x hx => ?_, some a, cap', by simp, fun hne => ?_⟩
    · obtain ⟨i, hi, rfl⟩ := List.mem_map.1 hx
      exact (hfs i (List.mem_range.1 hi)).1
    · have hpos : 0 < len' := by
        rcases Nat.eq_zero_or_pos len' with h | h
        · rw [h] at hne; simp at hne
        · exact h
      obtain ⟨ab, ao, spot⟩ := a
      have h0 := (hfs 0 hpos).2 0 (by decide)
      simp only [List.getElem?_cons_zero] at h0
      have hspot : spot = none := by simpa [Addr.add] using World.cell?_spot h0
      subst hspot
      rw [Addr.add_lit] at h0
      have hb : ab < W.heap.size := by
        rcases Nat.lt_or_ge ab W.heap.size with h | h
        · exact h
        · simp [World.cell?, Array.getElem?_eq_none h] at h0
      refine ⟨ab, ao, rfl, hb, fun j x hx => ?_⟩
      rw [List.getElem?_map] at hx
      obtain ⟨i, hi, rfl⟩ := Option.map_eq_some_iff.1 hx
      obtain ⟨hil, rfl⟩ := List.getElem?_eq_some_iff.1 hi
      rw [List.length_range] at hil
      simp only [List.getElem_range]
      have hc := (hfs j hil).2
      refine ⟨?_, ?_, ?_, ?_⟩
      · have := hc 0 (by decide); rw [Addr.add_lit] at this; simpa using this
      · have := hc 1 (by decide); rw [Addr.add_lit, ← Nat.add_assoc] at this; simpa using this
      · have := hc 2 (by decide); rw [Addr.add_lit, ← Nat.add_assoc] at this; simpa using this
      · have := hc 3 (by decide); rw [Addr.add_lit, ← Nat.add_assoc] at this; simpa using this

set_option maxRecDepth 100000 in
theorem open_curves {H : Type} {enc : TypeId × Value → H} {W : World} {base : Nat} {v1 : Value} {d1 : DataW H} {p1 : List MemPlace} (hval : Value.okWide Tryz.prog W .any base 50 v1) (h1 : DataW.Trod enc Tryz.prog W 0 (fun _ => true) true 50 v1 d1 p1) :
    ∃ (A : Option Addr) (cap : Nat) (cs : List (List Bk)), v1 = .slice A cs.length cap ∧ isLW A cs W := by
  obtain ⟨a1, len, cap, rfl⟩ := okWide_slice Tryz.underlying50 hval
  obtain ⟨fuel, hf⟩ := h1
  rcases Deep.open_slice Tryz.underlying50 hf with ⟨hcs, -⟩ | ⟨a, len', cap', m, n, D, Pl, hcs, -, hl, hm, hmm, -, hel⟩
  · simp [Value.cells] at hcs
    obtain ⟨rfl, rfl, rfl⟩ := hcs
    exact ⟨none, 0, [], rfl, ⟨fun c h => absurd h List.not_mem_nil, [], rfl, fun h => absurd rfl h, fun j v c h _ => by simp at h⟩⟩
  · simp [Value.cells] at hcs
    obtain ⟨rfl, rfl, rfl⟩ := hcs
    have each : ∀ i, i < len → ∃ y : Value × List Bk, W.cell? (a.add i) = some y.1 ∧ (∀ x ∈ y.2, x.bd64) ∧ ∃ B cap, y.1 = .slice B y.2.length cap ∧ SlR W.heap.size W (.slice B y.2.length cap) y.2 := fun i hi => by
      obtain ⟨cs, g1, g2⟩ := hel i (by rw [hmm]; simp; omega)
      rw [cellsCv] at g1
      obtain ⟨-, hlen, hcell⟩ := World.cells?_some g1
      obtain ⟨u, rfl⟩ : ∃ u, cs = [u] := by
        match cs, hlen with
        | [u], _ => exact ⟨u, rfl⟩
      obtain ⟨B, cb, c, rfl, hb, hr⟩ := curve_cell g2
      have := hcell 0 (by decide)
      rw [Deep.add_add] at this
      refine ⟨(.slice B c.length cb, c), ?_, hb, B, cb, rfl, hr⟩
      simpa using this
    obtain ⟨f, hfs⟩ := Deep.choose_lt each
    refine ⟨some a, cap, (List.range len).map fun i => (f i).2, by simp, ⟨fun c hc => ?_, (List.range len).map fun i => (f i).1, by simp, fun hne => ?_, fun j v c hj hc => ?_⟩⟩
    · obtain ⟨i, hi, rfl⟩ := List.mem_map.1 hc
      exact (hfs i (List.mem_range.1 hi)).2.1
    · have hpos : 0 < len := by
        rcases Nat.eq_zero_or_pos len with h | h
        · rw [h] at hne; simp at hne
        · exact h
      obtain ⟨ab, ao, spot⟩ := a
      have h0 := (hfs 0 hpos).1
      have hspot : spot = none := by simpa [Addr.add] using World.cell?_spot h0
      subst hspot
      rw [Addr.add_lit] at h0
      have hb : ab < W.heap.size := by
        rcases Nat.lt_or_ge ab W.heap.size with h | h
        · exact h
        · simp [World.cell?, Array.getElem?_eq_none h] at h0
      refine ⟨ab, ao, rfl, hb, fun j v hv => ?_⟩
      rw [List.getElem?_map] at hv
      obtain ⟨i, hi, rfl⟩ := Option.map_eq_some_iff.1 hv
      obtain ⟨hil, rfl⟩ := List.getElem?_eq_some_iff.1 hi
      rw [List.length_range] at hil
      simp only [List.getElem_range]
      have := (hfs j hil).1
      rw [Addr.add_lit] at this
      exact this
    · rw [List.getElem?_map] at hj hc
      obtain ⟨i, hi, rfl⟩ := Option.map_eq_some_iff.1 hj
      rw [hi] at hc
      cases hc
      obtain ⟨hil, rfl⟩ := List.getElem?_eq_some_iff.1 hi
      rw [List.length_range] at hil
      simp only [List.getElem_range]
      exact (hfs j hil).2.2
theorem cellsSv : Tryz.prog.cellsOf 52 = 4 := by kernel_rfl
set_option maxRecDepth 100000 in
theorem open_server {H : Type} {enc : TypeId × Value → H} {W : World} {base : Nat} {v1 : Value} {d1 : DataW H} {p1 : List MemPlace} (hval : Value.okWide Tryz.prog W .any base 52 v1) (h1 : DataW.Trod enc Tryz.prog W 0 (fun _ => true) true 52 v1 d1 p1) :
    ∃ a b c d : Int, v1 = .agg #[.int .i64 a, .int .i64 b, .int .i64 c, .int .i64 d] ∧ I64 a ∧ I64 b ∧ I64 c ∧ I64 d := by
  obtain ⟨cs, rfl, hsz⟩ := okWide_struct Tryz.underlying52 hval
  obtain ⟨fuel, hf⟩ := h1
  obtain ⟨l⟩ := cs
  have hl4 : l.length = 4 := by simpa using hsz.trans cellsSv
  obtain ⟨v0, v1, v2, v3, rfl⟩ := list4 hl4
  obtain ⟨y0, y1, n, -, hlen, h0, h1⟩ := trod_struct2 Tryz.underlying52 hf
  simp only [cellsRat, Value.cells, List.drop_zero, List.take_succ_cons, List.take_zero, List.drop_succ_cons] at h0 h1
  obtain ⟨a, b, rfl, rfl, ha, hb⟩ := open_rat h0
  obtain ⟨c, d, rfl, rfl, hc, hd⟩ := open_rat h1
  exact ⟨a, b, c, d, rfl, ha, hb, hc, hd⟩
end Go.Proofs.YtbncfknjgldcbaaGreat
