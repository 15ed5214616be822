/- The contract of squared. -/
import Derived.Test.YtjlnaihlndmlfabNext
namespace Go.Proofs.Ytjlnaihlndmlfab
open Go.RowKit Go.Joins

/-- A row of n words, the first k of which are set. -/
def parRow (n : Nat) (f : Nat → BitVec 32) (k : Nat) : Array Value := ((List.range n).map fun i => if i < k then U32 (f i) else .int .u32 0).toArray
theorem parRow_size (n : Nat) (f : Nat → BitVec 32) (k : Nat) : (parRow n f k).size = n := by simp [parRow]
theorem parRow_get (n : Nat) (f : Nat → BitVec 32) (k i : Nat) (h : i < n) : (parRow n f k)[i]? = some (if i < k then U32 (f i) else .int .u32 0) := by
  simp [parRow, h]
theorem parRow_set (n : Nat) (f : Nat → BitVec 32) (k : Nat) (h : k < n) : (parRow n f k).setIfInBounds k (U32 (f k)) = parRow n f (k + 1) := by
  apply Array.ext_getElem?
  intro i
  rw [Array.getElem?_setIfInBounds]
  by_cases hi : i < n
  · rw [parRow_get n f k i hi, parRow_get n f (k + 1) i hi, parRow_size]
    by_cases e : k = i
    · subst e; simp [h]
    · rw [if_neg e]
      by_cases h1 : i < k
      · rw [if_pos h1, if_pos (by omega)]
      · rw [if_neg h1, if_neg (by omega)]
  · rw [if_neg (by omega), Array.getElem?_eq_none (by rw [parRow_size]; omega), Array.getElem?_eq_none (by rw [parRow_size]; omega)]
theorem parRow_one (n : Nat) (f : Nat → BitVec 32) (k : Nat) : (parRow n f k).all (·.oneCell') = true := by
  simp only [parRow, List.all_toArray, List.all_eq_true, List.mem_map]
  rintro v ⟨i, _, rfl⟩
  split <;> rfl
theorem parRow_full (n : Nat) (f : Nat → BitVec 32) : parRow n f n = matRow ((List.range n).map f) := by
  unfold parRow matRow
  congr 1
  rw [List.map_map]
  apply List.map_congr_left
  intro i hi
  rw [if_pos (List.mem_range.1 hi)]; rfl
def sqF (m : List (BitVec 32)) (i : Nat) : BitVec 32 := mul m (m.getD i 0#32)
def sq (m : List (BitVec 32)) : List (BitVec 32) := (List.range 32).map (sqF m)

theorem zero_mat : ∀ (f : Nat → BitVec 32) (w : World), (zeroValue 46).run Try.prog w = .ok (.agg (parRow 32 f 0)) w := fun f w => by
  have h : parRow 32 f 0 = (List.replicate 32 (Value.int .u32 0)).toArray := by
    unfold parRow
    congr 1
  rw [h]
  exact (show ∀ w : World, (zeroValue 46).run Try.prog w = .ok (.agg (List.replicate 32 (Value.int .u32 0)).toArray) w from fun _ => by kernel_rfl) w
theorem info_mat : (Try.prog.info? 46).map (·.size) = some 32 := by kernel_rfl

set_option maxRecDepth 100000 in
set_option maxHeartbeats 1000000 in
theorem squared_any (gm : Nat) (t : TypeId) (m : List (BitVec 32)) (hm : m.length = 32) (w : World) (hgm : BoxN w gm t (matRow m)) :
    Calls Try.prog 23 #[.pointer (some ⟨gm, 0, none⟩)] w fun e w' => e = .returned (.agg (matRow (sq m))) ∧ Below w.heap.size w w' := by
  have hz := zero_mat (sqF m)
  have HT : Hid (∀ W x, BoxN W gm t (matRow m) → _) := fun W x h => times_any gm t m hm x W h
  go_enter Try.func23, Try.ntmps23
  go_wp2_with fail
  clear hz
  obtain ⟨R, hR⟩ : ∃ R, parRow 32 (sqF m) = R := ⟨_, rfl⟩
  rw [hR]
  have HR := Lib.hid hR
  clear hR
  have b0 : BoxN ((w.alloc (.cells (R 0) 46)).alloc (.cells (R 0) 46)) w.heap.size 46 (R 0) := (BoxN.new w _ _).alloc _
  have b1 : BoxN ((w.alloc (.cells (R 0) 46)).alloc (.cells (R 0) 46)) (w.heap.size + 1) 46 (R 0) := by
    have := BoxN.new (w.alloc (.cells (R 0) 46)) 46 (R 0)
    rwa [World.size_alloc] at this
  have bm := (hgm.alloc (.cells (R 0) 46)).alloc (.cells (R 0) 46)
  have hB : Below w.heap.size w ((w.alloc (.cells (R 0) 46)).alloc (.cells (R 0) 46)) := ((Below.refl _ w).alloc (Nat.le_refl _) _).alloc (by simp) _
  have hml := hgm.lt
  obtain ⟨g, hg⟩ : ∃ g, w.heap.size = g := ⟨_, rfl⟩
  rw [hg] at b0 b1 hB hml ⊢
  obtain ⟨g1, hg1⟩ : ∃ g1, g + 1 = g1 := ⟨_, rfl⟩
  rw [hg1] at b1 ⊢
  have d01 : g ≠ g1 := by omega
  have dm1 : gm ≠ g1 := by omega
  have l1 : g ≤ g1 := by omega
  have HG := Lib.hid hg
  have Hm := Lib.hid hm
  clear hg hg1 hm hgm
  generalize (w.alloc (.cells (R 0) 46)).alloc (.cells (R 0) 46) = W0 at b0 b1 bm hB ⊢
  go_loopw [7] (fun i wr => ∃ k : Nat, k ≤ 32 ∧ i = .int .i64 k ∧ BoxN wr g 46 (R 0) ∧ BoxN wr g1 46 (R k) ∧ BoxN wr gm t (matRow m) ∧ Below g w wr)
    (fun i _ => 32 - (intOf i).toNat)
  case atStart => exact ⟨0, by omega, rfl, b0, b1, bm, hB⟩
  case round =>
    clear b0 b1 bm hB
    obtain ⟨k, hk, rfl, b0, b1, bm, hB⟩ := hrel
    by_cases hlt : k < 32
    · have hd : decide ((k : Int) < 32) = true := by simp; omega
      have hc := bm.cell k
      have hgk : m[k]? = some (m[k]'(by rw [Hm.out]; exact hlt)) := List.getElem?_eq_getElem _
      have hc' : wr.cell? ⟨gm, k, none⟩ = some (U32 (m[k]'(by rw [Hm.out]; exact hlt))) := by
        rw [hc, matRow, List.getElem?_toArray, List.getElem?_map, hgk]; rfl
      have hv : Hid (R (k + 1) = (R k).setIfInBounds k (U32 (mul m (m[k]'(by rw [Hm.out]; exact hlt))))) := by
        unfold Hid; rw [← HR.out, ← parRow_set 32 _ k hlt, sqF, List.getD_eq_getElem?_getD, hgk]; rfl
      clear hc hgk
      generalize m[k]'(by rw [Hm.out]; exact hlt) = c at hc' hv
      have c1 := b1.cell k
      rw [← HR.out, parRow_get 32 _ k k hlt, if_neg (Nat.lt_irrefl k)] at c1
      have f1 := b1.frozen k
      go_wp2_with fail
      go_quiet (fail)
      rename_i nq
      replace hB := below_drewN hB nq
      replace b0 := b0.drewN nq
      replace b1 := b1.drewN nq
      replace bm := bm.drewN nq
      replace c1 : (wr.drewN nq).cell? ⟨g1, k, none⟩ = some (.int .u32 0) := by rw [World.cell?_drewN]; exact c1
      replace f1 : (wr.drewN nq).frozen? ⟨g1, k, none⟩ = false := by rw [World.frozen?_drewN]; exact f1
      clear hc'
      generalize wr.drewN nq = wq at b0 b1 bm c1 f1 hB ⊢
      have ht := HT.out wq c bm
      go_wp2_with fail
      (with_reducible refine ht.mono ?_); rintro e w' ⟨rfl, rfl⟩
      go_wp2_with fail
      go_roundw
      case rel => exact ⟨k + 1, by omega, by go_num, b0.far d01 _, by rw [hv.out]; exact b1.set1 k _, bm.far dm1 _, hB.setCell l1 _⟩
      case measure => simp [intOf]; omega
    · obtain rfl : k = 32 := by omega
      have b0' : wr.heap[g]? = some (.cells (R 0) 46 (0, 0)) := b0
      have b1' : wr.heap[g1]? = some (.cells (R 32) 46 (0, 0)) := b1
      have hi : (Try.prog.info? 46).map (·.size) = some (R 32).size := by rw [← HR.out, parRow_size]; exact info_mat
      have ho : (R 32).all (·.oneCell') = true := by rw [← HR.out]; exact parRow_one 32 _ 32
      have hs : (R 0).size = (R 32).size := by rw [← HR.out, parRow_size, parRow_size]
      have b2' : (wr.setRow g (R 32)).heap[g]? = some (.cells (R 32) 46 (0, 0)) := b0.setRow _
      have hB2 := below_setRow hB (Nat.le_refl g) (R 32)
      have hT : Hid (matRow (sq m) = R 32) := by unfold Hid; rw [← HR.out, parRow_full]; rfl
      clear b0 b1 hB bm HT
      generalize R 32 = T at *
      generalize R 0 = T0 at *
      go_wp2_with (first | (refine wpList_load_row rfl 46 _ rfl g1 rfl _ T _ _ b1' Try.underlying46 rfl hi ?_) | (refine wpList_store_rowTo rfl 46 _ _ rfl rfl g T rfl rfl _ T0 b0' hi hs ho ?_))
      exact bodyPost_ret (v := .agg T) (results_cell_row Try.results23 _ _ g _ T _ _ rfl b2' Try.underlying46 rfl hi) rfl ⟨by rw [hT.out], by rw [HG.out]; exact hB2⟩
end Go.Proofs.Ytjlnaihlndmlfab
