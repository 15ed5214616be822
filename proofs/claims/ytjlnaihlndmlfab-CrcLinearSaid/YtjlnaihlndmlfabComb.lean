/- The contract of Combine. -/
import Derived.Test.YtjlnaihlndmlfabPow
namespace Go.Proofs.Ytjlnaihlndmlfab
open Go.RowKit Go.Joins
attribute [local go_sem] Oper.semAt_some

def combI (a b : BitVec 32) (n : Int) : BitVec 32 := if 0 ≤ n ∧ n ≤ 1048576 then comb a b n.toNat else 0#32

theorem combine_bad (a b : BitVec 32) (n : Int) (h : n < 0 ∨ 1048576 < n) (w : World) :
    Calls Try.prog 15 #[U32 a, U32 b, .int .i64 n] w fun e w' => e = .returned (.int .u32 0) ∧ Below w.heap.size w w' := by
  by_cases h0 : n < 0
  · have hd : decide (n < 0) = true := by simp; omega
    go_enter Try.func15, Try.ntmps15
    go_wp2_with fail
    go_ret
    exact ⟨rfl, (Below.refl _ _).alloc (Nat.le_refl _) _⟩
  · have hd : decide (n < 0) = false := by simp; omega
    have hd1 : decide (1048576 < n) = true := by simp; omega
    go_enter Try.func15, Try.ntmps15
    go_wp2_with fail
    go_ret
    exact ⟨rfl, (Below.refl _ _).alloc (Nat.le_refl _) _⟩

set_option maxRecDepth 100000 in
set_option maxHeartbeats 4000000 in
theorem combine_any (a b : BitVec 32) (m : Nat) (hm : m ≤ 1048576) (w : World) :
    Calls Try.prog 15 #[U32 a, U32 b, .int .i64 m] w fun e w' => e = .returned (U32 (comb a b m)) ∧ Below w.heap.size w w' := by
  refine (callsIn_wide (n := 9)).1 ?_
  have hro : Fence.wide.round = none := rfl
  have hzm := zero_mat (colF 1)
  refine callsIn_of_wp_marks Try.func15 rfl trivial ?_ hro
  simp only [Try.ntmps15, List.size_toArray, List.length_cons, List.length_nil, Nat.reduceAdd, Nat.reduceSub, Array.replicate_succ, Array.replicate_zero, List.push_toArray, List.append_toArray, List.nil_append, List.cons_append]
  have hd : decide ((m : Int) < 0) = false := by simp
  have hd1 : decide ((1048576 : Int) < m) = false := by simp; omega
  have bA := BoxN.new w 23 #[U32 a]
  have hB : Below w.heap.size w (w.alloc (.cells #[U32 a] 23)) := (Below.refl _ _).alloc (Nat.le_refl _) _
  gi_wp2_with fail
  refine ⟨trivial, ?_⟩
  (with_reducible refine (callsIn_wide.2 (powers_any _ _)).mono ?_); rintro e w1 ⟨rfl, rfl⟩
  have bN := BoxN.new (w.alloc (.cells #[U32 a] 23)) 3 #[.int .i64 m]
  replace bA := bA.alloc (.cells #[.int .i64 m] 3)
  replace hB := hB.alloc (by simp) (.cells #[.int .i64 m] 3)
  rw [World.size_alloc] at bN
  gi_wp2_with fail
  have hsz : ((w.alloc (.cells #[U32 a] 23)).alloc (.cells #[.int .i64 m] 3)).heap.size = w.heap.size + 2 := by simp
  generalize (w.alloc (.cells #[U32 a] 23)).alloc (.cells #[.int .i64 m] 3) = W0 at bN bA hB hsz ⊢
  have hab : Hid (∀ W', Below w.heap.size w W' → w.heap.size ≤ W'.heap.size) := fun _ h => h.size
  refine wpIn_hands hro (by decide) (gf := 22) (lb := #[.pointer (some ⟨w.heap.size + 1, 0, none⟩)]) rfl trivial (enters_of Try.func22 (by kernel_rfl) rfl)
    (powers_hands (w.heap.size + 1) w.heap.size m hm 8 (by decide) W0 (by omega) bN) KpX.t (fun W l o o' _ h ho => KpX.b W l o o' h ho) (Below.refl _ _) (fun _ => rfl)
    (fun pre W => BoxN W w.heap.size 23 #[U32 (it (8 * pre.sum) a)] ∧ Below w.heap.size w W)
    (fun s A C ⟨h1, h2⟩ hk => ⟨h1.below hk (by omega), h2.trans (hk.mono (by omega))⟩)
    ⟨bA, hB⟩
    (fun x a' W => ∃ Bx, w.heap.size + 2 ≤ Bx ∧ BoxN W Bx 46 (matRow (matOf x)) ∧ a' = { tmps := #[U32 a, U32 b, .int .i64 m, .pointer (some ⟨w.heap.size, 0, none⟩), undef, undef, .int .u32 0, .pointer (some ⟨Bx, 0, none⟩), .int .i64 m, .bool false, .bool false, .int .i64 m, .bool false, .bool false, .int .i64 m, .func (.func 22) #[] #[.pointer (some ⟨w.heap.size + 1, 0, none⟩)], .agg (matRow (matOf x)), undef, undef, undef, undef, undef], defers := [] })
    (fun x a' A l r r' ⟨Bx, h1, h2, h3⟩ _ hr => ⟨Bx, h1, (World.putObj_heap_other (by rintro rfl; rw [show A.heap[_]? = _ from h2] at hr; cases hr)).trans h2, h3⟩)
    ?assign ?body ?done
  case assign =>
    rintro l pre x W K ⟨hm1, hB1⟩ hz hK
    have b0 : BoxN (W.alloc (.cells (parRow 32 (colF 1) 0) 46)) W.heap.size 46 (parRow 32 (colF 1) 0) := BoxN.new W _ _
    have hs : (parRow 32 (colF 1) 0).size = (matRow (matOf x)).size := by rw [parRow_size]; simp [matRow, matOf_len]
    have hs2 : (matRow (matOf x)).size = 32 := by simp [matRow, matOf_len]
    have ho : (matRow (matOf x)).all (·.oneCell') = true := by
      simp only [matRow, List.all_toArray, List.all_eq_true, List.mem_map]
      rintro v ⟨i, _, rfl⟩; rfl
    have hst := run_storeRow (P := Try.prog) b0 hs ho
    unfold encM
    have b1 := b0.setRow (matRow (matOf x))
    have hI1 : Ins W.heap.size W ((W.alloc (.cells (parRow 32 (colF 1) 0) 46)).setRow W.heap.size (matRow (matOf x))) := (Ins.alloc W _ (Nat.le_refl _)).trans (Ins.setRow b0 (Nat.le_refl _) _)
    have hk1 : KpX w.heap.size W ((W.alloc (.cells (parRow 32 (colF 1) 0) 46)).setRow W.heap.size (matRow (matOf x))) := ⟨hI1.b.size, fun k cs t _ h => (hI1.b.block k (Array.getElem?_eq_some_iff.1 h).1).trans h⟩
    have hK' := Lib.hid (fun a' => hK a' _ (hI1.o.from _) hk1 ⟨hm1.below hI1.b (by omega), hB1.trans (hI1.b.mono (by omega))⟩)
    have hb1 := Lib.hid b1
    have hwz : w.heap.size + 2 ≤ W.heap.size := by omega
    clear b1 hI1 hk1 hK b0 ho hs
    gi_wp2_with fail
    refine hK'.out _ ⟨W.heap.size, hwz, hb1.out, rfl⟩
  case body =>
    rintro l pre x a' W hz ⟨hm1, hB1⟩ ⟨Bx, hBx, bX, rfl⟩ hpre
    have c0 := hm1.cell 0
    simp at c0
    have hT := times_any Bx 46 (matOf x) (matOf_len x) (it (8 * pre.sum) a) W bX
    rw [mul_of, ← it_add] at hT
    have hs : Hid (8 * pre.sum + 8 * x = 8 * (pre ++ [x]).sum) := by unfold Hid; simp; omega
    rw [hs.out] at hT
    obtain ⟨y, hy⟩ : ∃ y, it (8 * (pre ++ [x]).sum) a = y := ⟨_, rfl⟩
    rw [hy] at hT
    have HY := Lib.hid hy
    have HT : Hid (CallsIn Fence.wide 6 Try.prog 19 #[.pointer (some ⟨Bx, 0, none⟩), U32 (it (8 * pre.sum) a)] W fun e w' => e = .returned (U32 y) ∧ w' = W) := callsIn_wide.2 hT
    have f0 := hm1.frozen 0
    have hm2 : Hid (BoxN (W.setCell ⟨w.heap.size, 0, none⟩ (U32 y)) w.heap.size 23 #[U32 (it (8 * (pre ++ [x]).sum) a)]) := by
      unfold Hid; rw [hy]; exact hm1.set1 0 _
    have hB2 := Lib.hid (hB1.setCell (p := ⟨w.heap.size, 0, none⟩) (Nat.le_refl _) (U32 y))
    have hk : Hid (KpX w.heap.size W (W.setCell ⟨w.heap.size, 0, none⟩ (U32 y))) := ⟨by simp, fun k cs t hne h => (Below.heap_setCell W ⟨w.heap.size, 0, none⟩ (U32 y) k hne).trans h⟩
    clear hT hy hs hm1 hB1
    generalize it (8 * pre.sum) a = z at c0 HT
    gi_wp2_with fail
    refine ⟨trivial, ?_⟩
    (with_reducible refine (CallsIn.inRound l HT.out).mono ?_); rintro e w5 ⟨rfl, rfl⟩
    gi_wp2_with fail
    exact ⟨(KeepsOthers.setCell _ _ _).from _, hk.out, hm2.out, hB2.out⟩
  case done =>
    rintro D W hD ⟨hm1, hB1⟩ hK
    have hsum : (bitsL 21 m 1).sum = m := by rw [bitsL_sum 21 m 1 (by omega)]; omega
    rw [hsum] at hm1
    have c0 := hm1.cell 0
    simp at c0
    have hx := xor32 (it (8 * m) a) b
    have hc : Hid (comb a b m = it (8 * m) a ^^^ b) := rfl
    generalize it (8 * m) a ^^^ b = y at hx hc
    generalize it (8 * m) a = z at c0 hx
    gi_wp2_with fail
    refine ⟨by simp, .inl ⟨_, _, rfl, run_takeDeferred hK, ?_⟩⟩
    exact ⟨_, results_tmp rfl _ _ _, by rw [hc.out]; rfl, hB1.trans ((belowK_b (w := W0) (n₀ := w.heap.size) (by omega) W D _ _ hD hK rfl rfl))⟩
end Go.Proofs.Ytjlnaihlndmlfab
