/- Merged texts: RFrame. -/
import Derived.Test.YtbncfknjgldcbaaGreatRows
import Derived.Test.YtbncfknjgldcbaaGreatM2
import Derived.ProofKit
import Derived.OpenShut
import Derived.Deep.DeepHandedRow
import Derived.Deep.DeepWitnessRowRef
import Derived.Deep.DeepLaidRun
import Derived.LaidMore
import Derived.Stop.LaidErr
import Derived.Deep.Slices
import Derived.ChangeSame
import Derived.Lib.SmallJoins
/- What the statements of this seat share: the end of a law, what a curve that came in gives. -/
namespace Go.Proofs.YtbncfknjgldcbaaGreat
open Go.ChangeShapes Go.WideShapes Go.ChangeAt Go.RowKit Go.Joins

section
variable {H : Type} {enc : TypeId × Value → H} {P : Program}

/-- Arguments read as they did where nothing below has turned. -/
theorem trodAll_below (hl : laidOutB P = true) {W W' : World} (hb : Below W.heap.size W W') : ∀ {ts : List TypeId} {vs : List Value} {ds : List (DataW H)} {ps : List MemPlace},
    (ts.all fun t => P.readableRec t && decide (t < P.types.size)) = true → DataW.TrodAll enc P W 0 (fun _ => true) true ts vs ds ps → (∀ x ∈ ps, x.block < W.heap.size) →
    DataW.TrodAll enc P W' 0 (fun b => decide (b < W.heap.size)) true ts vs ds ps
  | [], _, _, _, _, h, _ => by
    obtain ⟨rfl, rfl, rfl⟩ := trodAll_nil h
    exact trodAll_mk0
  | t :: ts, _, _, _, hr, h, hlt => by
    obtain ⟨v0, vs0, d0, ds0, p0, q0, rfl, rfl, rfl, h0, r0⟩ := trodAll_cons h
    simp only [List.all_cons, Bool.and_eq_true] at hr
    exact trodAll_cons_mk (Below.trod hl hr.1.1 (of_decide_eq_true hr.1.2) h0 hb (fun x hx => hlt x (List.mem_append_left _ hx))) (trodAll_below hl hb hr.2 r0 (fun x hx => hlt x (List.mem_append_right _ hx)))

/-- THE END OF A LAW: it returned true, and nothing that was there has turned. -/
theorem law_end (hl : laidOutB P = true) {f : Func} {s : ChangeSpec} {t : TypeId} {W W' : World} {args : Array Value} {ds gs : List (DataW H)} {before : List MemPlace}
    (hs : s.vars = []) (hfn : s.fn H (ds ++ gs) = { results := [.lit (.bool true)], args := ds }) (hres : f.resultTypes = #[t]) (ht : P.underlying t = some .bool)
    (hr : (f.params.toList.all fun t => P.readableRec t && decide (t < P.types.size)) = true)
    (hW : DataW.Whole enc P f.params.toList s.vars false W args.toList ds gs before) (hb : Below W.heap.size W W') :
    ∃ v, Ending.returned (.bool true) = .returned v ∧ s.post enc P f false true false false W args v W' := by
  have hW' := hW
  obtain ⟨p, q, hA, hV, hbe, hfz, hnd⟩ := hW
  rw [hs] at hV
  obtain ⟨rfl, rfl⟩ := trodVars_none hV
  refine ⟨_, rfl, ds, [], before, [], p, [], hW', ?_, ?_, ?_, hb.frame _, fun h => by cases h⟩
  · rw [hfn, hres]
    exact trodAll_mk1 (shut_bool ht _)
  · rw [hfn]
    refine trodAll_below hl hb hr hA fun x hx => hW'.lt x (by rw [hbe]; simpa using hx)
  · rw [hs, hfn]
    exact rfl
end

theorem own : ownKnob Tryz.prog.godebug = none := by kernel_rfl
theorem laidOut : laidOutB Tryz.prog = true := by kernel_rfl
theorem cellsRat : Tryz.prog.cellsOf 25 = 2 := by kernel_rfl
theorem cellsBk : Tryz.prog.cellsOf 80 = 4 := by kernel_rfl
theorem list4 {α : Type} {l : List α} (h : l.length = 4) : ∃ a b c d, l = [a, b, c, d] := by
  match l, h with
  | [a, b, c, d], _ => exact ⟨a, b, c, d, rfl⟩
/-- Two cells that read as a number. -/
theorem open_rat {H : Type} {enc : TypeId × Value → H} {W : World} {sp : Nat → Bool} {fuel : Nat} {v0 v1 : Value} {x : DataW H × List MemPlace} (h : DataW.trod enc Tryz.prog W 0 sp true fuel 25 [v0, v1] = some x) :
    ∃ n d : Int, v0 = .int .i64 n ∧ v1 = .int .i64 d ∧ I64 n ∧ I64 d := by
  obtain ⟨y0, y1, n, -, -, h0, h1⟩ := trod_struct2 Tryz.underlying25 h
  have c1 : Tryz.prog.cellsOf 3 = 1 := by kernel_rfl
  simp only [c1, List.drop_zero, List.take_succ_cons, List.take_zero, List.drop_succ_cons] at h0 h1
  obtain ⟨a, e0, -, w0⟩ := DataW.trod_int Tryz.underlying3 h0
  obtain ⟨b, e1, -, w1⟩ := DataW.trod_int Tryz.underlying3 h1
  simp only [List.cons.injEq, and_true] at e0 e1
  exact ⟨a, b, e0, e1, bounds_i64 w0, bounds_i64 w1⟩
/-- Four cells that read as a bucket. -/
theorem open_bk {H : Type} {enc : TypeId × Value → H} {W : World} {sp : Nat → Bool} {fuel : Nat} {cs : List Value} {x : DataW H × List MemPlace} (h : DataW.trod enc Tryz.prog W 0 sp true fuel 80 cs = some x) :
    ∃ y : Bk, y.bd64 ∧ cs = [.int .i64 y.bn, .int .i64 y.bd, .int .i64 y.rn, .int .i64 y.rd] := by
  obtain ⟨y0, y1, n, -, hlen, h0, h1⟩ := trod_struct2 Tryz.underlying80 h
  rw [cellsBk] at hlen
  obtain ⟨v0, v1, v2, v3, rfl⟩ := list4 hlen
  simp only [cellsRat, List.drop_zero, List.take_succ_cons, List.take_zero, List.drop_succ_cons] at h0 h1
  obtain ⟨a, b, rfl, rfl, ha, hb⟩ := open_rat h0
  obtain ⟨c, d, rfl, rfl, hc, hd⟩ := open_rat h1
  exact ⟨⟨a, b, c, d⟩, ⟨ha, hb, hc, hd⟩, rfl⟩

set_option maxRecDepth 100000 in
/-- What a curve that came in gives. -/
theorem open_curve {H : Type} {enc : TypeId × Value → H} {W : World} {base : Nat} {v1 : Value} {d1 : DataW H} {p1 : List MemPlace} (hval : Value.okWide Tryz.prog W .any base 23 v1) (h1 : DataW.Trod enc Tryz.prog W 0 (fun _ => true) true 23 v1 d1 p1) :
    ∃ (A : Option Addr) (cap : Nat) (c : List Bk), v1 = .slice A c.length cap ∧ (∀ x ∈ c, x.bd64) ∧ SlR W.heap.size W (.slice A c.length cap) c := by
  obtain ⟨a1, len, cap, rfl⟩ := okWide_slice Tryz.underlying23 hval
  obtain ⟨fuel, hf⟩ := h1
  rcases Deep.open_slice Tryz.underlying23 hf with ⟨hcs, -⟩ | ⟨a, len', cap', m, n, D, Pl, hcs, -, hl, hm, hmm, -, hel⟩
  · simp [Value.cells] at hcs
    obtain ⟨rfl, rfl, rfl⟩ := hcs
    exact ⟨none, 0, [], rfl, fun x h => absurd h List.not_mem_nil, none, 0, rfl, fun h => absurd rfl h⟩
  · simp [Value.cells] at hcs
    obtain ⟨rfl, rfl, rfl⟩ := hcs
    have each : ∀ i, i < len → ∃ y : Bk, y.bd64 ∧ ∀ k, k < 4 → W.cell? (a.add (i * 4 + k)) = ([.int .i64 y.bn, .int .i64 y.bd, .int .i64 y.rn, .int .i64 y.rd] : List Value)[k]? := fun i hi => by
      obtain ⟨cs, g1, g2⟩ := hel i (by rw [hmm]; simp; omega)
      rw [cellsBk] at g1
      obtain ⟨-, -, hcell⟩ := World.cells?_some g1
      obtain ⟨y, hy, rfl⟩ := open_bk g2
      exact ⟨y, hy, fun k hk => by rw [← Deep.add_add]; exact hcell k hk⟩
    obtain ⟨f, hfs⟩ := Deep.choose_lt each
    refine ⟨some a, cap, (List.range len).map f, by simp, fun x hx => ?_, some a, cap, by simp, fun hne => ?_⟩
    · obtain ⟨i, hi, rfl⟩ := List.mem_map.1 hx
      exact (hfs i (List.mem_range.1 hi)).1
    · have hpos : 0 < len := by
        rcases Nat.eq_zero_or_pos len with h | h
        · rw [h] at hne; simp at hne
        · exact h
      obtain ⟨ab, ao, spot⟩ := a
      have h0 := (hfs 0 hpos).2 0 (by decide)
      simp only [List.getElem?_cons_zero] at h0
      have hspot : spot = none := by simpa [Addr.add] using World.cell?_spot h0
      subst hspot
      rw [Addr.add_lit] at h0
      have hb : ab < W.heap.size := by
        rcases Nat.lt_or_ge ab W.heap.size with h | h
        · exact h
        · simp [World.cell?, Array.getElem?_eq_none h] at h0
      refine ⟨ab, ao, rfl, hb, fun j x hx => ?_⟩
      rw [List.getElem?_map] at hx
      obtain ⟨i, hi, rfl⟩ := Option.map_eq_some_iff.1 hx
      obtain ⟨hil, rfl⟩ := List.getElem?_eq_some_iff.1 hi
      rw [List.length_range] at hil
      simp only [List.getElem_range]
      have hc := (hfs j hil).2
      refine ⟨?_, ?_, ?_, ?_⟩
      · have := hc 0 (by decide); rw [Addr.add_lit] at this; simpa using this
      · have := hc 1 (by decide); rw [Addr.add_lit, ← Nat.add_assoc] at this; simpa using this
      · have := hc 2 (by decide); rw [Addr.add_lit, ← Nat.add_assoc] at this; simpa using this
      · have := hc 3 (by decide); rw [Addr.add_lit, ← Nat.add_assoc] at this; simpa using this
end Go.Proofs.YtbncfknjgldcbaaGreat
