/- The contract of LexSmall's spaces: a string of that many bytes. -/
import Derived.Test.YtbpncbomcdpogaaLexes
namespace Go.Proofs.Ytbpncbomcdpogaa
open Go.RowKit Go.Joins

theorem own_set {W : World} {base b n c j : Nat} {m : List (BitVec 8)} (h : W.ownsRow base 5 1 (.slice (some ⟨b, 0, none⟩) n c) n (cellsB m)) (z : BitVec 8) :
    (W.setCell ⟨b, j, none⟩ (U8 z)).ownsRow base 5 1 (.slice (some ⟨b, 0, none⟩) n c) n (cellsB (m.set j z)) := by
  have hm : m.length = n := by have := h.1; rw [cellsB_len] at this; omega
  rcases h.2 with ⟨e, _⟩ | ⟨g', cap, cur, e, e2, hg, h4, h5, h6, h7⟩
  · cases e
  · simp only [Value.slice.injEq, Option.some.injEq, Addr.mk.injEq, and_true, true_and] at e
    obtain ⟨rfl, rfl⟩ := e
    refine ⟨by rw [cellsB_len, List.length_set]; omega, .inr ⟨b, c, cur.setIfInBounds j (U8 z), rfl, e2, BoxN.set1 (t := 5) (cs := cur) j (U8 z) hg, h4, h5, by simpa using h6, ?_⟩⟩
    rw [Array.toList_setIfInBounds, List.take_set, h7]
    unfold cellsB
    rw [List.map_set]
theorem zeros_map : ∀ l : List Nat, l.map (fun _ => Value.int .u8 0) = List.replicate l.length (U8 0#8)
  | [] => rfl
  | _ :: l => by rw [List.map_cons, zeros_map l]; rfl

set_option maxRecDepth 100000 in
set_option maxHeartbeats 4000000 in
theorem spaces_any (n : Nat) (hn : n ≤ 70000) (w : World) :
    Calls Try.prog 17 #[.int .i64 n] w fun e w' => ∃ S : ByteArray, S.size = n ∧ e = .returned (.string S) ∧ Below w.heap.size w w' := by
  obtain ⟨i0, hi, hz0, hz1, hz2⟩ := info_parts infoB
  have hmk : Hid ((madeCells (Value.int .u8 0).cells (n * 1)).toList = cellsB (List.replicate n 0#8)) := by
    unfold Hid; simp [madeCells, cellsB, Value.cells, Nat.mod_one]
    have := zeros_map (List.range n)
    rwa [List.length_range] at this
  go_enter Try.func17, Try.ntmps17
  go_wp2_with (refine wpList_make_full _ rfl _ _ 34 rfl w.heap.size 5 i0 _ 1 Try.underlying34 hi hz0 hz1 .i64 .i64 _ _ n rfl rfl rfl rfl (by rw [hz2]; omega) (by unfold maxLen; omega) (Nat.le_refl _) ?_; intro w1 hown1 hg1)
  have hB1 : Below w.heap.size w w1 := (Below.refl _ _).grown hg1 (Nat.le_refl _) (fun _ h => by cases h)
  rw [hmk.out] at hown1
  clear hg1 hmk
  go_loopw [4] (fun i wr => ∃ (k : Nat) (l : List (BitVec 8)), k ≤ n ∧ l.length = n ∧ i = .int .i64 k ∧ wr.ownsRow w.heap.size 5 1 (.slice (some ⟨w.heap.size, 0, none⟩) n n) n (cellsB l) ∧ Below w.heap.size w wr)
    (fun i _ => n - (intOf i).toNat)
  case atStart => exact ⟨0, List.replicate n 0#8, Nat.zero_le _, by simp, rfl, hown1, hB1⟩
  case round =>
    clear hown1 hB1
    obtain ⟨k, l, hk, hl, rfl, hown, hB⟩ := hrel
    by_cases hlt : k < n
    · have hset : Hid ((wr.setCell ⟨w.heap.size, k, none⟩ (U8 32#8)).ownsRow w.heap.size 5 1 (.slice (some ⟨w.heap.size, 0, none⟩) n n) n (cellsB (l.set k 32#8))) := own_set hown _
      have hfz : wr.frozen? ⟨w.heap.size, k, none⟩ = false := by
        rcases hown.2 with ⟨e, _⟩ | ⟨g', c', cur, e, _, hg, _⟩
        · cases e
        · simp only [Value.slice.injEq, Option.some.injEq, Addr.mk.injEq, and_true] at e
          rw [e.1]
          exact BoxN.frozen (t := 5) (cs := cur) hg _
      have hcm := hown.cells (g := w.heap.size) rfl k (U8 (l.getD k 0#8)) (by
        rw [cellsB_get, List.getD_eq_getElem?_getD, List.getElem?_eq_getElem (by omega)]; rfl)
      rw [Addr.add_lit, Nat.zero_add] at hcm
      have hB2 := Lib.hid (hB.setCell (p := ⟨w.heap.size, k, none⟩) (Nat.le_refl _) (U8 32#8))
      have hd : decide ((k : Int) < n) = true := by simp; omega
      have hl2 : (l.set k 32#8).length = n := by simp [hl]
      clear hown hB
      replace hl2 := Lib.hid hl2
      simp only [U8] at hcm hB2 hset
      generalize (l.getD k 0#8) = zm at hcm
      go_wp2_with fail
      go_roundw
      case rel => exact ⟨k + 1, l.set k 32#8, by omega, hl2.out, by go_num, hset.out, hB2.out⟩
      case measure => simp [intOf]; omega
    · have hd : decide ((k : Int) < n) = false := by simp; omega
      have hst := str_run n (isB_of_own hown)
      rw [hl] at hst
      clear hown
      go_wp2_with fail
      go_ret
      exact ⟨_, by rw [bstr_size, hl], rfl, hB⟩
end Go.Proofs.Ytbpncbomcdpogaa
