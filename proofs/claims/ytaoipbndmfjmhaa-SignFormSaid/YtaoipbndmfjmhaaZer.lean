/- append(b, make([]byte, k)...) to an own row of bytes. -/
import Derived.Test.YtaoipbndmfjmhaaShare
import Derived.Lib.AppendZerosOnto
import Derived.Laws.CopyRow
import Derived.Deep.DeepAppendWide
namespace Go.Proofs.Ytaoipbndmfjmhaa
open Go.RowKit Go.Joins

theorem zc (k : Nat) : (Builtin.zeroCells #[Value.int .u8 0] k).toList = List.replicate k (Value.int .u8 0) := by
  unfold Builtin.zeroCells
  apply List.ext_getElem?
  intro i
  by_cases h : i < k
  · simp [h, Nat.mod_one]
  · simp [h]
theorem cells_zero (k : Nat) : cellsB (List.replicate k 0#8) = List.replicate k (Value.int .u8 0) := by
  unfold cellsB
  rw [List.map_replicate]
  rfl

theorem app_zeros_run (W : World) (base n c k : Nat) (G : Option Addr) (l : List (BitVec 8)) (ty : TypeId) (hown : W.ownsRow base 5 1 (.slice G n c) n (cellsB l)) (hn0 : 0 < n) (hn : n ≤ 4000) (hk0 : 0 < k) (hk : k ≤ 20) (hb : base ≤ W.heap.size) :
    ∃ G' c' w', (Builtin.append_ #[42, 3] ty #[.slice G n c, .int .i64 (k : Nat)]).run Try.prog W = .ok (.slice G' (n + k) c') w' ∧ w'.ownsRow base 5 1 (.slice G' (n + k) c') (n + k) (cellsB (l ++ List.replicate k 0#8)) ∧ Below base W w' := by
  obtain ⟨i0, hi, hz0, hz1, hz2⟩ := info_parts infoB
  have hl : (cellsB l).length = n := by have := hown.1; omega
  have hlen : (cellsB (l ++ List.replicate k 0#8)).length = (n + k) * 1 := by
    rw [cellsB_append, cells_zero, List.length_append, List.length_replicate, hl]; omega
  rcases hown.2 with ⟨_, e⟩ | ⟨g, cap, cur, e, hbg, hg, hnc, hcm, hcs, htake⟩
  · omega
  simp only [Value.slice.injEq] at e
  obtain ⟨rfl, _, rfl⟩ := e
  by_cases hroom : n + k ≤ c
  · have hst := run_storeCells_at (P := Try.prog) g n 5 (List.replicate k (Value.int .u8 0)) 0 cur W hg (by simp; omega) (fun v hv => by rw [List.eq_of_mem_replicate hv]; rfl)
    have hrun : (Builtin.append_ #[42, 3] ty #[.slice (some ⟨g, 0, none⟩) n c, .int .i64 (k : Nat)]).run Try.prog W = .ok (.slice (some ⟨g, 0, none⟩) (n + k) c) (W.setRow g (cur.toList.take n ++ List.replicate k (Value.int .u8 0) ++ cur.toList.drop (n + k)).toArray) := by
      have hw : IntKind.i64.wrap (k : Int) = k := by rw [IntKind.wrap_i64]; omega
      have hneg : ¬ ((k : Int) < 0) := by omega
      have h48i : ¬ (281474976710656 < (k : Int)) := by omega
      have hk1 : k ≠ 0 := by omega
      have hadd : (⟨g, 0, none⟩ : Addr).add n = ⟨g, n, none⟩ := by unfold Addr.add; split <;> simp_all
      simp only [Nat.add_zero, List.length_replicate] at hst
      have hzc : (Builtin.zeroCells (Value.int .u8 0).cells k).toList = List.replicate k (Value.int .u8 0) := zc k
      simp [Builtin.append_, run_underlying Try.underlying42, run_underlying Try.underlying3, sizeOf, typeInfo, zeroValue, hi, hz0, hz1, hz2, asInt, asIntOf, hw, hneg, h48i, hroom, hk1, hadd, hzc, hst]
    refine ⟨_, _, _, hrun, ⟨hlen, .inr ⟨g, c, _, rfl, hbg, setRow_heap W g cur _ 5 _ hg, hroom, hcm, ?_, ?_⟩⟩, below_setRow (Below.refl _ W) hbg _⟩
    · simp only [List.size_toArray, List.length_append, List.length_take, List.length_drop, Array.length_toList, List.length_replicate]
      omega
    · rw [cellsB_append, cells_zero, ← htake, Nat.mul_one, Nat.mul_one]
      have h1 : (cur.toList.take n ++ List.replicate k (Value.int .u8 0)).length = n + k := by
        rw [List.length_append, List.length_take, List.length_replicate, Array.length_toList]; omega
      rw [← h1]
      exact List.take_left
  · have holds : ∀ j u, (cellsB l)[j]? = some u → W.cell? ((⟨g, 0, none⟩ : Addr).add j) = some u := hown.cells (g := g) rfl
    have hf := run_firstCells_some (P := Try.prog) W.drew 1 n ⟨g, 0, none⟩ n c (cellsB l) (by omega) holds
    have hgr := Lib.run_append_grow_zeros (P := Try.prog) W 42 3 ty 5 i0 (.int .u8 0) .i64 .i64 Try.underlying42 Try.underlying3 hi hz0 (some ⟨g, 0, none⟩) n c (cellsB l) (by rw [hz1]; exact hf) k hk0 (by omega) (by omega) (by omega) (by rw [hz2]; omega) (by rw [hz2]; exact growslice_fits_wide (by omega) (by omega))
    have hge := grownCap_ge W (n + k) c 5
    have hcm2 : grownCap W (n + k) c 5 ≤ maxLen := grownCap_le_maxLen W (n + k) c 5 (by unfold maxLen; omega)
    refine ⟨_, _, _, hgr, ⟨hlen, .inr ⟨W.heap.size, _, _, rfl, hb, heap_alloc_new W.drew _, hge, hcm2, ?_, ?_⟩⟩, (Below.refl _ W).drew.alloc (by simpa using hb) _⟩
    · simp only [Array.size_append, List.size_toArray, size_zeroCells, hl, show (Value.int IntKind.u8 0).cells.size = 1 from rfl]
      omega
    · have hzc : (Builtin.zeroCells (Value.int .u8 0).cells k).toList = List.replicate k (Value.int .u8 0) := zc k
      simp only [Array.toList_append, hzc, Nat.mul_one]
      rw [cellsB_append, cells_zero]
      have h1 : (cellsB l ++ List.replicate k (Value.int .u8 0)).length = n + k := by
        rw [List.length_append, List.length_replicate, hl]
      rw [← h1]
      exact List.take_left
end Go.Proofs.Ytaoipbndmfjmhaa
