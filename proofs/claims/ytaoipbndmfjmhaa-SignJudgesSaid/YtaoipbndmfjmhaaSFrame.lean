/- What a signature that came in gives. -/
import Derived.Test.YtaoipbndmfjmhaaQFrame
import Derived.Test.YtaoipbndmfjmhaaSig
namespace Go.Proofs.Ytaoipbndmfjmhaa
open Go.ChangeShapes Go.WideShapes Go.ChangeAt Go.RowKit Go.Joins

set_option maxRecDepth 100000 in
/-- The cells of a slice of words. -/
theorem words_of {H : Type} {enc : TypeId × Value → H} {W : World} {fuel : Nat} {cs : List Value} {x : DataW H × List MemPlace} (hf : DataW.trod enc Try.prog W 0 (fun _ => true) true fuel 32 cs = some x) :
    ∃ (A : Option Addr) (cap : Nat) (l : List (BitVec 64)), cs = [.slice A l.length cap] ∧ DataQ W A cap l := by
  rcases open_ints Try.underlying32 Try.underlying22 cellsU64 hf with ⟨hcs, hx⟩ | ⟨a, len', cap', zs, hcs, _, hl, hm, hz, hx, hcell, hwz⟩
  · exact ⟨none, 0, [], hcs, ⟨isQ.nil _ _, by simp, by omega⟩⟩
  · simp only [if_true] at hz
    have hlen : (zs.take len').length = len' := by rw [List.length_take]; omega
    obtain ⟨m, hm2⟩ := ints_bq (l := zs.take len') fun z h => by
      have hw := hwz z (List.mem_of_mem_take h)
      have := bounds_u64 hw
      omega
    have hml : m.length = len' := by rw [← hlen, hm2, List.length_map]
    refine ⟨some a, cap', m, by rw [hml]; exact hcs, ⟨fun hne => ?_, by omega, by unfold maxLen at hm; omega⟩⟩
    have hpos : 0 < zs.length := by
      have := List.length_pos_iff.2 hne
      omega
    obtain ⟨ab, ao, spot⟩ := a
    have hspot : spot = none := by simpa [Addr.add] using World.cell?_spot (hcell 0 hpos)
    subst hspot
    have hb : ab < W.heap.size := by
      have := hcell 0 hpos
      rw [Addr.add_lit] at this
      rcases Nat.lt_or_ge ab W.heap.size with h | h
      · exact h
      · simp [World.cell?, Array.getElem?_eq_none h] at this
    refine ⟨ab, ao, rfl, hb, fun k z hk => ?_⟩
    have hk' : k < len' := by rw [← hml]; exact (List.getElem?_eq_some_iff.1 hk).1
    have hzk : zs[k]? = some (z.toNat : Int) := by
      have h2 : (zs.take len')[k]? = some (z.toNat : Int) := by rw [hm2, List.getElem?_map, hk]; rfl
      rw [List.getElem?_take, if_pos hk'] at h2
      exact h2
    have := hcell k (by omega)
    rw [Addr.add_lit] at this
    rw [this, List.getD_eq_getElem?_getD, hzk]; rfl

theorem cells_int : Try.prog.cellsOf 3 = 1 := by kernel_rfl
theorem cells_tW : Try.prog.cellsOf 31 = 18 := by kernel_rfl
theorem cells_sQ : Try.prog.cellsOf 32 = 1 := by kernel_rfl
theorem cells_sig : Try.prog.cellsOf 34 = 20 := by kernel_rfl
theorem take_one {α : Type} {l : List α} {k : Nat} {x : α} (h : (l.drop k).take 1 = [x]) : l[k]? = some x := by
  have h2 : ((l.drop k).take 1)[0]? = some x := by rw [h]; rfl
  rw [List.getElem?_take, if_pos (by decide), List.getElem?_drop] at h2
  simpa using h2

set_option maxRecDepth 100000 in
theorem open_sig {H : Type} {enc : TypeId × Value → H} {W : World} {base : Nat} {v1 : Value} {d1 : DataW H} {p1 : List MemPlace} (hval : Value.okWide Try.prog W .any base 34 v1) (h1 : DataW.Trod enc Try.prog W 0 (fun _ => true) true 34 v1 d1 p1) :
    ∃ (q : Int) (f : Nat → BitVec 64) (A : Option Addr) (cap : Nat) (l : List (BitVec 64)), v1 = .agg (sgA q f (.slice A l.length cap)) ∧ (-9223372036854775808 ≤ q ∧ q ≤ 9223372036854775807) ∧ DataQ W A cap l := by
  obtain ⟨cs, rfl, hsz⟩ := okWide_struct Try.underlying34 hval
  rw [cells_sig] at hsz
  obtain ⟨fuel, hf⟩ := h1
  obtain ⟨xs, n, _, _, _, hxs, hfd⟩ := DataW.trod_struct Try.underlying34 hf
  have hcl : (Value.agg cs).cells.toList = cs.toList := rfl
  rw [hcl] at hfd
  have g : ∀ i : Nat, i < 3 → ∃ y, xs[i]? = some y := fun i hi => ⟨_, List.getElem?_eq_getElem (by rw [hxs]; exact hi)⟩
  obtain ⟨y0, e0⟩ := g 0 (by decide)
  obtain ⟨y1, e1⟩ := g 1 (by decide)
  obtain ⟨y2, e2⟩ := g 2 (by decide)
  have f0 : DataW.trod enc Try.prog W 0 (fun _ => true) true n 3 ((cs.toList.drop 0).take (Try.prog.cellsOf 3)) = xs[0]? := hfd 0 _ rfl
  have f1 : DataW.trod enc Try.prog W 0 (fun _ => true) true n 31 ((cs.toList.drop 1).take (Try.prog.cellsOf 31)) = xs[1]? := hfd 1 _ rfl
  have f2 : DataW.trod enc Try.prog W 0 (fun _ => true) true n 32 ((cs.toList.drop 19).take (Try.prog.cellsOf 32)) = xs[2]? := hfd 2 _ rfl
  rw [cells_int] at f0
  rw [cells_tW] at f1
  rw [cells_sQ] at f2
  rw [e0] at f0
  rw [e1] at f1
  rw [e2] at f2
  obtain ⟨q, hq, _, wq⟩ := DataW.trod_int Try.underlying3 f0
  obtain ⟨A, cap, l, hl, hD⟩ := words_of f2
  obtain ⟨ys, m, _, _, _, hys, hyd⟩ := DataW.trod_array Try.underlying31 f1
  have c0 := take_one hq
  have c19 := take_one hl
  have hw : ∀ i, i < 18 → ∃ z : BitVec 64, cs.toList[1 + i]? = some (U64 z) := fun i hi => by
    have h2 := hyd i hi
    rw [cellsU64, List.getElem?_eq_getElem (by rw [hys]; exact hi)] at h2
    obtain ⟨z, hz, _, wz⟩ := DataW.trod_int Try.underlying22 h2
    have h3 := take_one hz
    rw [List.getElem?_take, if_pos (by omega), List.getElem?_drop, Nat.mul_one] at h3
    have hb := bounds_u64 wz
    obtain ⟨b, rfl⟩ := int_bv (n := 64) hb.1 (by omega)
    exact ⟨b, h3⟩
  have hex : ∃ f : Nat → BitVec 64, ∀ i, i < 18 → cs.toList[1 + i]? = some (U64 (f i)) :=
    ⟨fun i => if h : i < 18 then Classical.choose (hw i h) else 0#64, fun i hi => by dsimp only; rw [dif_pos hi]; exact Classical.choose_spec (hw i hi)⟩
  obtain ⟨f, hf2⟩ := hex
  refine ⟨q, f, A, cap, l, ?_, bounds_i64 wq, hD⟩
  congr 1
  apply Array.ext_getElem?
  intro i
  by_cases hi : i < 20
  · rw [sgA_get _ _ _ _ hi, ← Array.getElem?_toList]
    unfold sgF
    by_cases h0 : i = 0
    · subst h0; rw [if_pos rfl]; exact c0
    · rw [if_neg h0]
      by_cases h19 : i = 19
      · subst h19; rw [if_pos rfl]; exact c19
      · rw [if_neg h19]
        have := hf2 (i - 1) (by omega)
        rwa [show 1 + (i - 1) = i by omega] at this
  · rw [Array.getElem?_eq_none (by omega), Array.getElem?_eq_none (by rw [sgA_size]; omega)]
end Go.Proofs.Ytaoipbndmfjmhaa
