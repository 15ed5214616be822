/- What a slice of tokens that came in gives. -/
import Derived.Test.YtbpncbomcdpogaaFrame
import Derived.Test.YtbpncbomcdpogaaJoins
import Derived.SizedLaws
import Derived.Deep.Slices
namespace Go.Proofs.Ytbpncbomcdpogaa
open Go.ChangeShapes Go.WideShapes Go.ChangeAt Go.RowKit Go.Joins

theorem cellsTk : Try.prog.cellsOf 27 = 3 := by kernel_rfl
theorem list3 {α : Type} {l : List α} (h : l.length = 3) : ∃ a b c, l = [a, b, c] := by
  match l, h with
  | [a, b, c], _ => exact ⟨a, b, c, rfl⟩
theorem trod_tri {H : Type} {enc : TypeId × Value → H} {P : Program} {w : World} {base : Nat} {spare : Nat → Bool} {held : Bool} {t : TypeId} {f0 f1 f2 : Field} {fuel : Nat} {cs : List Value} {x : DataW H × List MemPlace} (ht : P.underlying t = some (.struct #[f0, f1, f2])) (h : DataW.trod enc P w base spare held fuel t cs = some x) :
    ∃ y0 y1 y2 n, x = (.agg [y0.1, y1.1, y2.1], y0.2 ++ (y1.2 ++ y2.2)) ∧ cs.length = P.cellsOf t ∧ DataW.trod enc P w base spare held n f0.type ((cs.drop f0.offset).take (P.cellsOf f0.type)) = some y0 ∧
      DataW.trod enc P w base spare held n f1.type ((cs.drop f1.offset).take (P.cellsOf f1.type)) = some y1 ∧ DataW.trod enc P w base spare held n f2.type ((cs.drop f2.offset).take (P.cellsOf f2.type)) = some y2 := by
  obtain ⟨xs, n, _, rfl, hl, hlen, hf⟩ := DataW.trod_struct ht h
  match xs, hlen with
  | [y0, y1, y2], _ => exact ⟨y0, y1, y2, n, by simp, hl, by simpa using hf 0 f0 rfl, by simpa using hf 1 f1 rfl, by simpa using hf 2 f2 rfl⟩
/-- Three cells that read as a token. -/
theorem open_tok {H : Type} {enc : TypeId × Value → H} {W : World} {sp : Nat → Bool} {fuel : Nat} {cs : List Value} {x : DataW H × List MemPlace} (h : DataW.trod enc Try.prog W 0 sp true fuel 27 cs = some x) :
    ∃ y : RTk, y.k ≤ 255 ∧ cs = [.int .u8 y.k, .string (bstr y.s), .int .i64 y.o] ∧ y.s.length ∈ x.1.weights Try.prog 27 := by
  obtain ⟨y0, y1, y2, n, rfl, hl, h0, h1, h2⟩ := trod_tri Try.underlying27 h
  rw [cellsTk] at hl
  obtain ⟨v0, v1, v2, rfl⟩ := list3 hl
  have c0 : Try.prog.cellsOf 25 = 1 := by kernel_rfl
  have c1 : Try.prog.cellsOf 9 = 1 := by kernel_rfl
  have c2 : Try.prog.cellsOf 3 = 1 := by kernel_rfl
  simp only [c0, c1, c2, List.drop_zero, List.take_succ_cons, List.take_zero, List.drop_succ_cons] at h0 h1 h2
  obtain ⟨a, e0, -, w0⟩ := DataW.trod_int Try.underlying25 h0
  obtain ⟨s, e1, x1, -⟩ := DataW.trod_string Try.underlying9 h1
  obtain ⟨o, e2, -, w2⟩ := DataW.trod_int Try.underlying3 h2
  simp only [List.cons.injEq, and_true] at e0 e1 e2
  obtain ⟨l, rfl⟩ := str_bstr s
  have hb := bounds_u8 w0
  obtain ⟨k, rfl⟩ := Int.eq_ofNat_of_zero_le hb.1
  refine ⟨⟨k, l, o⟩, by show k ≤ 255; omega, by rw [e0, e1, e2], ?_⟩
  have hsz := bstr_size l
  have hdl : (bstr l).data.toList.length = l.length := by rw [Array.length_toList]; exact hsz
  have hu := Try.underlying27
  subst x1
  simp [DataW.weights, hu, DataW.weightsEach, hdl]

theorem weights_all {H : Type} {P : Program} {e : TypeId} {n : Nat} : ∀ {l : List (DataW H)} {d : DataW H}, d ∈ l → n ∈ d.weights P e → n ∈ DataW.weightsAll P e l
  | y :: l, d, hd, hn => by
    rw [DataW.weightsAll, List.mem_append]
    rcases List.mem_cons.1 hd with rfl | hd
    · exact .inl hn
    · exact .inr (weights_all hd hn)

set_option maxRecDepth 100000 in
/-- What a slice of tokens that came in gives. -/
theorem open_toks {H : Type} {enc : TypeId × Value → H} {W : World} {base : Nat} {v1 : Value} {d1 : DataW H} {p1 : List MemPlace} (hval : Value.okWide Try.prog W .any base 24 v1) (h1 : DataW.Trod enc Try.prog W 0 (fun _ => true) true 24 v1 d1 p1) :
    ∃ (A : Option Addr) (cap : Nat) (L : List RTk), v1 = .slice A L.length cap ∧ isT A L W ∧ (∀ x ∈ L, x.k ≤ 255) ∧ L.length ≤ maxLen ∧ ∀ x ∈ L, x.s.length ∈ d1.weights Try.prog 24 := by
  obtain ⟨a1, len, cap, rfl⟩ := okWide_slice Try.underlying24 hval
  obtain ⟨fuel, hf⟩ := h1
  rcases Deep.open_slice Try.underlying24 hf with ⟨hcs, -⟩ | ⟨a, len', cap', m, n, D, Pl, hcs, -, hl, hm, hmm, hx, hel⟩
  · simp [Value.cells] at hcs
    obtain ⟨rfl, rfl, rfl⟩ := hcs
    exact ⟨none, 0, [], rfl, fun h => absurd rfl h, fun x h => absurd h List.not_mem_nil, Nat.zero_le _, fun x h => absurd h List.not_mem_nil⟩
  · simp [Value.cells] at hcs
    obtain ⟨rfl, rfl, rfl⟩ := hcs
    have hd1 : d1 = .slice ((List.range len).map D) ((List.range (m - len)).map fun j => D (len + j)) := congrArg Prod.fst hx
    have hu := Try.underlying24
    have each : ∀ i, i < len → ∃ y : RTk, y.k ≤ 255 ∧ (y.s.length ∈ d1.weights Try.prog 24) ∧ ∀ k, k < 3 → W.cell? (a.add (i * 3 + k)) = ([.int .u8 y.k, .string (bstr y.s), .int .i64 y.o] : List Value)[k]? := fun i hi => by
      obtain ⟨cs, g1, g2⟩ := hel i (by rw [hmm]; simp; omega)
      rw [cellsTk] at g1
      obtain ⟨-, -, hcell⟩ := World.cells?_some g1
      obtain ⟨y, hy, rfl, hw⟩ := open_tok g2
      refine ⟨y, hy, ?_, fun k hk => by rw [← Deep.add_add]; exact hcell k hk⟩
      rw [hd1, DataW.weights, hu]
      exact List.mem_cons_of_mem _ (List.mem_append_left _ (weights_all (List.mem_map_of_mem (List.mem_range.2 hi)) hw))
    haveI : Inhabited RTk := ⟨⟨0, [], 0⟩⟩
    obtain ⟨f, hfs⟩ := Deep.choose_lt each
    refine ⟨some a, cap, (List.range len).map f, by simp, fun hne => ?_, fun x hx => ?_, by simp; omega, fun x hx => ?_⟩
    · have hpos : 0 < len := by
        rcases Nat.eq_zero_or_pos len with h | h
        · rw [h] at hne; simp at hne
        · exact h
      obtain ⟨ab, ao, spot⟩ := a
      have h0 := (hfs 0 hpos).2.2 0 (by decide)
      simp only [List.getElem?_cons_zero] at h0
      have hspot : spot = none := by simpa [Addr.add] using World.cell?_spot h0
      subst hspot
      rw [Addr.add_lit] at h0
      have hb : ab < W.heap.size := by
        rcases Nat.lt_or_ge ab W.heap.size with h | h
        · exact h
        · simp [World.cell?, Array.getElem?_eq_none h] at h0
      refine ⟨ab, ao, rfl, hb, fun j x hx => ?_⟩
      rw [List.getElem?_map] at hx
      obtain ⟨i, hi, rfl⟩ := Option.map_eq_some_iff.1 hx
      obtain ⟨hil, rfl⟩ := List.getElem?_eq_some_iff.1 hi
      rw [List.length_range] at hil
      simp only [List.getElem_range]
      have hc := (hfs j hil).2.2
      refine ⟨?_, ?_, ?_⟩
      · have := hc 0 (by decide); rw [Addr.add_lit] at this; simpa using this
      · have := hc 1 (by decide); rw [Addr.add_lit, ← Nat.add_assoc] at this; simpa using this
      · have := hc 2 (by decide); rw [Addr.add_lit, ← Nat.add_assoc] at this; simpa using this
    · obtain ⟨i, hi, rfl⟩ := List.mem_map.1 hx
      exact (hfs i (List.mem_range.1 hi)).1
    · obtain ⟨i, hi, rfl⟩ := List.mem_map.1 hx
      exact (hfs i (List.mem_range.1 hi)).2.1
end Go.Proofs.Ytbpncbomcdpogaa
