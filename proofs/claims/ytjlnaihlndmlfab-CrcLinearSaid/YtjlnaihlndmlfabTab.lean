/- The contract of zeroByte: the table of what each register below 256 becomes. -/
import Derived.Test.YtjlnaihlndmlfabBit
namespace Go.Proofs.Ytjlnaihlndmlfab
open Go.RowKit Go.Joins

/-- The table with its first k entries. -/
def tabRow (k : Nat) : Array Value := ((List.range 256).map fun i => if i < k then U32 (tabV i) else .int .u32 0).toArray
theorem tabRow_size (k : Nat) : (tabRow k).size = 256 := by simp [tabRow]
theorem tabRow_get (k i : Nat) (h : i < 256) : (tabRow k)[i]? = some (if i < k then U32 (tabV i) else .int .u32 0) := by
  simp [tabRow, h]
theorem tabRow_set (k : Nat) (h : k < 256) : (tabRow k).setIfInBounds k (U32 (tabV k)) = tabRow (k + 1) := by
  apply Array.ext_getElem?
  intro i
  rw [Array.getElem?_setIfInBounds]
  by_cases hi : i < 256
  · rw [tabRow_get k i hi, tabRow_get (k + 1) i hi, tabRow_size]
    by_cases e : k = i
    · subst e; simp [h]
    · rw [if_neg e]
      by_cases h1 : i < k
      · rw [if_pos h1, if_pos (by omega)]
      · rw [if_neg h1, if_neg (by omega)]
  · rw [if_neg (by omega), Array.getElem?_eq_none (by rw [tabRow_size]; omega), Array.getElem?_eq_none (by rw [tabRow_size]; omega)]
theorem tabRow_one (k : Nat) : (tabRow k).all (·.oneCell') = true := by
  simp only [tabRow, List.all_toArray, List.all_eq_true, List.mem_map]
  rintro v ⟨i, _, rfl⟩
  split <;> rfl
/-- The whole table. -/
def tab : Array Value := tabRow 256
theorem tab_get (i : Nat) (h : i < 256) : tab[i]? = some (U32 (tabV i)) := by
  unfold tab; rw [tabRow_get 256 i h, if_pos h]

theorem zero_tab : ∀ w : World, (zeroValue 49).run Try.prog w = .ok (.agg (tabRow 0)) w := fun _ => by kernel_rfl
theorem info_tab : (Try.prog.info? 49).map (·.size) = some 256 := by kernel_rfl

theorem u32_lit (k : Nat) (h : k < 256) : Value.int .u32 (k : Int) = U32 (BitVec.ofNat 32 k) := by
  have : k % 4294967296 = k := Nat.mod_eq_of_lt (by omega)
  simp [U32, this]

set_option maxHeartbeats 1000000 in
set_option maxRecDepth 100000 in
theorem zeroByte_any (w : World) :
    Calls Try.prog 20 #[] w fun e w' => e = .returned (.agg tab) ∧ Below w.heap.size w w' := by
  have hz := zero_tab
  have hz1 : ∀ w : World, (zeroValue 23).run Try.prog w = .ok (.int .u32 0) w := fun _ => by kernel_rfl
  go_enter Try.func20, Try.ntmps20
  go_wp2_with fail
  clear hz hz1
  have b0 : BoxN (((w.alloc (.cells (tabRow 0) 49)).alloc (.cells (tabRow 0) 49)).alloc (.cells #[.int .u32 0] 23)) w.heap.size 49 (tabRow 0) := ((BoxN.new w _ _).alloc _).alloc _
  have b1 : BoxN (((w.alloc (.cells (tabRow 0) 49)).alloc (.cells (tabRow 0) 49)).alloc (.cells #[.int .u32 0] 23)) (w.heap.size + 1) 49 (tabRow 0) := by
    have := (BoxN.new (w.alloc (.cells (tabRow 0) 49)) 49 (tabRow 0)).alloc (.cells #[.int .u32 0] 23)
    rwa [World.size_alloc] at this
  have b2 : BoxN (((w.alloc (.cells (tabRow 0) 49)).alloc (.cells (tabRow 0) 49)).alloc (.cells #[.int .u32 0] 23)) (w.heap.size + 1 + 1) 23 #[.int .u32 0] := by
    have := BoxN.new ((w.alloc (.cells (tabRow 0) 49)).alloc (.cells (tabRow 0) 49)) 23 #[.int .u32 0]
    rwa [World.size_alloc, World.size_alloc] at this
  have hB : Below w.heap.size w (((w.alloc (.cells (tabRow 0) 49)).alloc (.cells (tabRow 0) 49)).alloc (.cells #[.int .u32 0] 23)) := (((Below.refl _ w).alloc (Nat.le_refl _) _).alloc (by simp) _).alloc (by simp; omega) _
  obtain ⟨g, hg⟩ : ∃ g, w.heap.size = g := ⟨_, rfl⟩
  rw [hg] at b0 b1 b2 hB ⊢
  obtain ⟨g1, hg1⟩ : ∃ g1, g + 1 = g1 := ⟨_, rfl⟩
  rw [hg1] at b1 b2 ⊢
  obtain ⟨g2, hg2⟩ : ∃ g2, g1 + 1 = g2 := ⟨_, rfl⟩
  rw [hg2] at b2 ⊢
  have d01 : g ≠ g1 := by omega
  have d02 : g ≠ g2 := by omega
  have d12 : g1 ≠ g2 := by omega
  have d10 : g1 ≠ g := by omega
  have d20 : g2 ≠ g := by omega
  have d21 : g2 ≠ g1 := by omega
  have l1 : g ≤ g1 := by omega
  have l2 : g ≤ g2 := by omega
  have HG := Lib.hid hg
  clear hg hg1 hg2
  generalize ((w.alloc (.cells (tabRow 0) 49)).alloc (.cells (tabRow 0) 49)).alloc (.cells #[.int .u32 0] 23) = W0 at b0 b1 b2 hB ⊢
  go_loopw [6] (fun i wr => ∃ k : Nat, k ≤ 256 ∧ i = .int .i64 k ∧ BoxN wr g 49 (tabRow 0) ∧ BoxN wr g1 49 (tabRow k) ∧ (∃ z, BoxN wr g2 23 #[z]) ∧ Below g w wr)
    (fun i _ => 256 - (intOf i).toNat)
  case atStart => exact ⟨0, by omega, rfl, b0, b1, ⟨_, b2⟩, hB⟩
  case round =>
    clear b0 b1 b2 hB
    obtain ⟨k, hk, rfl, b0, b1, ⟨z, b2⟩, hB⟩ := hrel
    by_cases hlt : k < 256
    · have c2 := b2.cell 0
      have f2 := b2.frozen 0
      have hd : decide ((k : Int) < 256) = true := by simp; omega
      simp at c2
      go_wp2_with fail
      have e0 : BoxN (wr.setCell ⟨g2, 0, none⟩ (.int .u32 k)) g2 23 #[U32 (it 0 (BitVec.ofNat 32 k))] := by
        rw [u32_lit k hlt]; exact b2.set1 0 _
      have e1 := b1.far (p := ⟨g2, 0, none⟩) d12 (.int .u32 k)
      have e2 := b0.far (p := ⟨g2, 0, none⟩) d02 (.int .u32 k)
      have e3 := hB.setCell (p := ⟨g2, 0, none⟩) l2 (.int .u32 k)
      clear b0 b1 b2 hB c2 f2
      generalize wr.setCell ⟨g2, 0, none⟩ (.int .u32 k) = W1 at e0 e1 e2 e3 ⊢
      go_loopw [11] (fun i wi => ∃ j : Nat, j ≤ 8 ∧ i = .int .i64 j ∧ BoxN wi g2 23 #[U32 (it j (BitVec.ofNat 32 k))] ∧ BoxN wi g1 49 (tabRow k) ∧ BoxN wi g 49 (tabRow 0) ∧ Below g w wi)
        (fun i _ => 8 - (intOf i).toNat)
      case atStart => exact ⟨0, by omega, rfl, e0, e1, e2, e3⟩
      case round =>
        clear e0 e1 e2 e3
        obtain ⟨j, hj, rfl, e0, e1, e2, e3⟩ := hrel
        rename_i wi _ _ _ _ _
        by_cases hlj : j < 8
        · go_wp2_with (go_at_call 24; refine (bit_any _ _ _ e0).mono ?_; rintro e w' ⟨rfl, rfl⟩)
          go_roundw
          case rel => exact ⟨j + 1, by omega, by go_num, by rw [it_snoc]; exact e0.set1 0 _, e1.far d12 _, e2.far d02 _, e3.setCell l2 _⟩
          case measure => simp [intOf]; omega
        · obtain rfl : j = 8 := by omega
          have c0 := e0.cell 0
          simp at c0
          have c1 := e1.cell k
          rw [tabRow_get k k hlt, if_neg (Nat.lt_irrefl k)] at c1
          have f1 := e1.frozen k
          have lk : k < 256 := hlt
          go_wp2_with fail
          go_roundw
          case rel => exact ⟨k + 1, by omega, by go_num, e2.far d01 _, by rw [← tabRow_set k hlt]; exact e1.set1 k _, ⟨_, e0.far d21 _⟩, e3.setCell l1 _⟩
          case measure => simp [intOf]; omega
    · obtain rfl : k = 256 := by omega
      have b0' : wr.heap[g]? = some (.cells (tabRow 0) 49 (0, 0)) := b0
      have b1' : wr.heap[g1]? = some (.cells tab 49 (0, 0)) := b1
      have hi : (Try.prog.info? 49).map (·.size) = some tab.size := by unfold tab; rw [tabRow_size]; exact info_tab
      have ho : tab.all (·.oneCell') = true := tabRow_one 256
      have hs : (tabRow 0).size = tab.size := by unfold tab; rw [tabRow_size, tabRow_size]
      have b2' : (wr.setRow g tab).heap[g]? = some (.cells tab 49 (0, 0)) := b0.setRow tab
      have hB2 := below_setRow hB (Nat.le_refl g) tab
      clear b0 b1 b2 hB
      generalize tabRow 0 = T0 at b0' hs
      obtain ⟨T, hT⟩ : ∃ T, tab = T := ⟨_, rfl⟩
      rw [hT] at b1' hi ho hs b2' hB2
      have HT := Lib.hid hT
      clear hT
      go_wp2_with (first | (refine wpList_load_row rfl 49 _ rfl g1 rfl _ T _ _ b1' Try.underlying49 rfl hi ?_) | (refine wpList_store_rowTo rfl 49 _ _ rfl rfl g T rfl rfl _ T0 b0' hi hs ho ?_))
      exact bodyPost_ret (v := .agg T) (results_cell_row Try.results20 _ _ g _ T _ _ rfl b2' Try.underlying49 rfl hi) rfl ⟨by rw [HT.out], by rw [HG.out]; exact hB2⟩
end Go.Proofs.Ytjlnaihlndmlfab
