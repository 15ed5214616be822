/- What the statements of this seat share: the end of a law, what bytes that came in give. -/
import Derived.Test.YtaoipbndmfjmhaaRows
import Derived.Test.YtaoipbndmfjmhaaApp
import Derived.ProofKit
import Derived.OpenShut
import Derived.Deep.DeepHandedRow
import Derived.Deep.DeepWitnessRowRef
import Derived.Deep.DeepLaidRun
import Derived.LaidMore
import Derived.Stop.LaidErr
namespace Go.Proofs.Ytaoipbndmfjmhaa
open Go.ChangeShapes Go.WideShapes Go.ChangeAt Go.RowKit Go.Joins

section
variable {H : Type} {enc : TypeId × Value → H} {P : Program}

/-- Arguments read as they did where nothing below has turned. -/
theorem trodAll_below (hl : laidOutB P = true) {W W' : World} (hb : Below W.heap.size W W') : ∀ {ts : List TypeId} {vs : List Value} {ds : List (DataW H)} {ps : List MemPlace},
    (ts.all fun t => P.readableRec t && decide (t < P.types.size)) = true → DataW.TrodAll enc P W 0 (fun _ => true) true ts vs ds ps → (∀ x ∈ ps, x.block < W.heap.size) →
    DataW.TrodAll enc P W' 0 (fun b => decide (b < W.heap.size)) true ts vs ds ps
  | [], _, _, _, _, h, _ => by
    obtain ⟨rfl, rfl, rfl⟩ := trodAll_nil h
    exact trodAll_mk0
  | t :: ts, _, _, _, hr, h, hlt => by
    obtain ⟨v0, vs0, d0, ds0, p0, q0, rfl, rfl, rfl, h0, r0⟩ := trodAll_cons h
    simp only [List.all_cons, Bool.and_eq_true] at hr
    exact trodAll_cons_mk (Below.trod hl hr.1.1 (of_decide_eq_true hr.1.2) h0 hb (fun x hx => hlt x (List.mem_append_left _ hx))) (trodAll_below hl hb hr.2 r0 (fun x hx => hlt x (List.mem_append_right _ hx)))

/-- THE END OF A LAW: it returned true, and nothing that was there has turned. -/
theorem law_end (hl : laidOutB P = true) {f : Func} {s : ChangeSpec} {t : TypeId} {W W' : World} {args : Array Value} {ds gs : List (DataW H)} {before : List MemPlace}
    (hs : s.vars = []) (hfn : s.fn H (ds ++ gs) = { results := [.lit (.bool true)], args := ds }) (hres : f.resultTypes = #[t]) (ht : P.underlying t = some .bool)
    (hr : (f.params.toList.all fun t => P.readableRec t && decide (t < P.types.size)) = true)
    (hW : DataW.Whole enc P f.params.toList s.vars false W args.toList ds gs before) (hb : Below W.heap.size W W') :
    ∃ v, Ending.returned (.bool true) = .returned v ∧ s.post enc P f false true false false W args v W' := by
  have hW' := hW
  obtain ⟨p, q, hA, hV, hbe, hfz, hnd⟩ := hW
  rw [hs] at hV
  obtain ⟨rfl, rfl⟩ := trodVars_none hV
  refine ⟨_, rfl, ds, [], before, [], p, [], hW', ?_, ?_, ?_, hb.frame _, fun h => by cases h⟩
  · rw [hfn, hres]
    exact trodAll_mk1 (shut_bool ht _)
  · rw [hfn]
    refine trodAll_below hl hb hr hA fun x hx => hW'.lt x (by rw [hbe]; simpa using hx)
  · rw [hs, hfn]
    exact rfl
end

theorem own : ownKnob Try.prog.godebug = none := by kernel_rfl
theorem laidOut : laidOutB Try.prog = true := by kernel_rfl
theorem cellsU8 : Try.prog.cellsOf 5 = 1 := by kernel_rfl

theorem int_bv {n : Nat} {x : Int} (h0 : 0 ≤ x) (h1 : x < 2 ^ n) : ∃ b : BitVec n, x = (b.toNat : Int) := by
  refine ⟨BitVec.ofNat n x.toNat, ?_⟩
  rw [BitVec.toNat_ofNat, Nat.mod_eq_of_lt]
  · omega
  · have : (x.toNat : Int) < (2 ^ n : Nat) := by rw [Int.toNat_of_nonneg h0]; simpa using h1
    omega
theorem ints_bv : ∀ {l : List Int}, (∀ z ∈ l, 0 ≤ z ∧ z ≤ 255) → ∃ m : List (BitVec 8), l = m.map fun b => (b.toNat : Int)
  | [], _ => ⟨[], rfl⟩
  | z :: l, h => by
    obtain ⟨m, hm⟩ := ints_bv (l := l) fun y hy => h y (List.mem_cons_of_mem _ hy)
    obtain ⟨h1, h2⟩ := h z List.mem_cons_self
    obtain ⟨b, hb⟩ := int_bv (n := 8) h1 (by omega)
    exact ⟨b :: m, by rw [hm, hb]; rfl⟩
/-- Bytes that came in. -/
structure Data (W : World) (A : Option Addr) (cap : Nat) (l : List (BitVec 8)) : Prop where
  row : isB A l W
  len : l.length ≤ cap
  cap : cap ≤ 9223372036854775807

set_option maxRecDepth 100000 in
/-- What a slice of bytes that came in gives. -/
theorem open_nums {H : Type} {enc : TypeId × Value → H} {W : World} {base : Nat} {v1 : Value} {d1 : DataW H} {p1 : List MemPlace} (hval : Value.okWide Try.prog W .any base 42 v1) (h1 : DataW.Trod enc Try.prog W 0 (fun _ => true) true 42 v1 d1 p1) :
    ∃ (A : Option Addr) (cap : Nat) (l : List (BitVec 8)), v1 = .slice A l.length cap ∧ Data W A cap l := by
  obtain ⟨a1, len, cap, rfl⟩ := okWide_slice Try.underlying42 hval
  obtain ⟨fuel, hf⟩ := h1
  rcases open_ints Try.underlying42 Try.underlying5 cellsU8 hf with ⟨hcs, hx⟩ | ⟨a, len', cap', zs, hcs, _, hl, hm, hz, hx, hcell, hwz⟩
  · simp [Value.cells] at hcs
    obtain ⟨rfl, rfl, rfl⟩ := hcs
    exact ⟨none, 0, [], rfl, ⟨isB.nil _ _, by simp, by omega⟩⟩
  · simp [Value.cells] at hcs
    obtain ⟨rfl, rfl, rfl⟩ := hcs
    simp only [if_true] at hz
    have hlen : (zs.take len).length = len := by rw [List.length_take]; omega
    obtain ⟨m, hm2⟩ := ints_bv (l := zs.take len) fun z h => by
      have hw := hwz z (List.mem_of_mem_take h)
      have := bounds_u8 hw
      omega
    have hml : m.length = len := by rw [← hlen, hm2, List.length_map]
    refine ⟨some a, cap, m, by rw [hml], ⟨fun hne => ?_, by omega, by unfold maxLen at hm; omega⟩⟩
    have hpos : 0 < zs.length := by
      have := List.length_pos_iff.2 hne
      omega
    obtain ⟨ab, ao, spot⟩ := a
    have hspot : spot = none := by simpa [Addr.add] using World.cell?_spot (hcell 0 hpos)
    subst hspot
    have hb : ab < W.heap.size := by
      have := hcell 0 hpos
      rw [Addr.add_lit] at this
      rcases Nat.lt_or_ge ab W.heap.size with h | h
      · exact h
      · simp [World.cell?, Array.getElem?_eq_none h] at this
    refine ⟨ab, ao, rfl, hb, fun k z hk => ?_⟩
    have hk' : k < len := by rw [← hml]; exact (List.getElem?_eq_some_iff.1 hk).1
    have hzk : zs[k]? = some (z.toNat : Int) := by
      have h2 : (zs.take len)[k]? = some (z.toNat : Int) := by rw [hm2, List.getElem?_map, hk]; rfl
      rw [List.getElem?_take, if_pos hk'] at h2
      exact h2
    have := hcell k (by omega)
    rw [Addr.add_lit] at this
    rw [this, List.getD_eq_getElem?_getD, hzk]; rfl
end Go.Proofs.Ytaoipbndmfjmhaa
