/- The reference's Digits. -/
import Derived.Test.YtaoipbndmfjmhaaDigits
import Derived.Test.YtaoipbndmfjmhaaRfB
namespace Go.Proofs.Ytaoipbndmfjmhaa
open Go.RowKit Go.Joins

set_option maxRecDepth 100000 in
set_option maxHeartbeats 1000000 in
theorem rdigits_any (d : BitVec 64) (w : World) :
    Calls Try.prog 12 #[U64 d] w fun e w' => e = .returned (.agg (rowI (digN d) 18)) ∧ Below w.heap.size w w' := by
  have hz := zero_tI (fun i => .int .i64 (digN d i : Int))
  obtain ⟨R, hR⟩ : ∃ R, parV 18 (fun i => .int .i64 (digN d i : Int)) (.int .i64 0) = R := ⟨_, rfl⟩
  rw [hR] at hz
  have HR := Lib.hid hR
  clear hR
  go_enter Try.func12, Try.ntmps12
  go_wp2_with fail
  clear hz
  have b0 : BoxN ((w.alloc (.cells (R 0) 24)).alloc (.cells (R 0) 24)) w.heap.size 24 (R 0) := (BoxN.new w _ _).alloc _
  have b1 : BoxN ((w.alloc (.cells (R 0) 24)).alloc (.cells (R 0) 24)) (w.heap.size + 1) 24 (R 0) := by
    have := BoxN.new (w.alloc (.cells (R 0) 24)) 24 (R 0)
    rwa [World.size_alloc] at this
  have hB : Below w.heap.size w ((w.alloc (.cells (R 0) 24)).alloc (.cells (R 0) 24)) := ((Below.refl _ w).alloc (Nat.le_refl _) _).alloc (by simp) _
  generalize (w.alloc (.cells (R 0) 24)).alloc (.cells (R 0) 24) = W at b0 b1 hB ⊢
  obtain ⟨g, hg⟩ : ∃ g, w.heap.size = g := ⟨_, rfl⟩
  rw [hg] at b0 b1 hB ⊢
  have HG := Lib.hid hg
  clear hg
  obtain ⟨g1, hg1⟩ : ∃ g1, g + 1 = g1 := ⟨_, rfl⟩
  rw [hg1] at b1 ⊢
  have d01 : g ≠ g1 := by omega
  have l1 : g ≤ g1 := by omega
  clear hg1
  go_loopw [0, 4, 5] (fun x c i wr => ∃ k : Nat, k ≤ 16 ∧ i = .int .i64 k ∧ x = .int .u64 ((d.toNat / 16 ^ k : Nat) : Int) ∧ c = .int .i64 (chkTo d k : Int) ∧ BoxN wr g 24 (R 0) ∧ BoxN wr g1 24 (R k) ∧ Below g w wr)
    (fun _ _ i _ => (16 - intOf i).toNat)
  case atStart => exact ⟨0, by omega, rfl, by simp, by simp [chkTo], b0, b1, hB⟩
  case round =>
    clear b0 b1 hB
    obtain ⟨k, hk, rfl, rfl, rfl, b0, b1, hB⟩ := hrel
    by_cases hlt : k < 16
    · have hd : decide ((k : Int) < 16) = true := by simp; omega
      have c1 := b1.cell k
      rw [← HR.out, parV_get 18 _ _ k k (by omega), if_neg (Nat.lt_irrefl k)] at c1
      have f1 := b1.frozen k
      have e1 := divPow d k
      have e2 := modPow d k
      have hc := chkTo_le d k
      have hh := hexN_lt d k
      have hdg : digN d k = hexN d k := by unfold digN; rw [if_pos hlt]
      have hs : Hid ((R k).setIfInBounds k (.int .i64 (hexN d k : Int)) = R (k + 1)) := by
        unfold Hid; rw [← hdg, ← HR.out]; exact parV_set 18 (fun i => .int .i64 (digN d i : Int)) _ k (by omega)
      have hch : Hid (((chkTo d (k + 1) : Nat) : Int) = (chkTo d k : Int) + 15 - (hexN d k : Int)) := by unfold Hid; rw [chkTo]; omega
      obtain ⟨x1, hx1⟩ : ∃ x1, d.toNat / 16 ^ (k + 1) = x1 := ⟨_, rfl⟩
      have hw : IntKind.u64.wrap (x1 : Int) = (x1 : Int) := by
        have h1 : x1 ≤ d.toNat := by rw [← hx1]; exact Nat.div_le_self _ _
        have h2 := d.isLt
        simp only [IntKind.wrap, IntKind.signed, IntKind.bits, Bool.false_and, Bool.false_eq_true, if_false]
        omega
      rw [hx1] at e1
      have HX1 := Lib.hid hx1
      clear hx1
      generalize d.toNat / 16 ^ k = x0 at *
      generalize hexN d k = h0 at *
      generalize chkTo d k = c0 at *
      have b2 := b1.set1 k (.int .i64 (h0 : Int))
      have cc := b2.cell k
      have hsz : k < (R k).size := by rw [← HR.out, parV_size]; omega
      rw [Array.getElem?_setIfInBounds, if_pos rfl, if_pos hsz] at cc
      have hb2 := Lib.hid b2
      have hb0 := Lib.hid (b0.far (p := ⟨g1, k, none⟩) d01 (.int .i64 (h0 : Int)))
      have hB2 := Lib.hid (hB.setCell (p := ⟨g1, k, none⟩) l1 (.int .i64 (h0 : Int)))
      clear b0 b1 b2 hB hdg
      go_wp2_with fail
      go_roundw
      case rel => exact ⟨k + 1, by omega, by go_num, by rw [HX1.out], by rw [hch.out], hb0.out, by rw [← hs.out]; exact hb2.out, hB2.out⟩
      case measure => simp [intOf]; omega
    · obtain rfl : k = 16 := by omega
      generalize d.toNat / 16 ^ 16 = xe
      have hc := chkTo_le d 16
      have hd16 : Hid ((R 16).setIfInBounds 16 (.int .i64 ((chkTo d 16 % 16 : Nat) : Int)) = R 17) := by
        unfold Hid; rw [← HR.out]; exact parV_set 18 (fun i => .int .i64 (digN d i : Int)) _ 16 (by omega)
      have hd17 : Hid ((R 17).setIfInBounds 17 (.int .i64 ((chkTo d 16 / 16 : Nat) : Int)) = R 18) := by
        unfold Hid; rw [← HR.out]; exact parV_set 18 (fun i => .int .i64 (digN d i : Int)) _ 17 (by omega)
      have hR18 : Hid (R 18 = rowI (digN d) 18) := by unfold Hid; rw [← HR.out, parV_full]; rfl
      have m1 : ((chkTo d 16 : Nat) : Int) % 16 = ((chkTo d 16 % 16 : Nat) : Int) := by omega
      have m2 : ((chkTo d 16 : Nat) : Int) / 16 = ((chkTo d 16 / 16 : Nat) : Int) := by omega
      have m3 : wrap64 ((chkTo d 16 / 16 : Nat) : Int) = ((chkTo d 16 / 16 : Nat) : Int) := by unfold wrap64; omega
      generalize chkTo d 16 % 16 = y1 at *
      generalize chkTo d 16 / 16 = y2 at *
      generalize chkTo d 16 = c0 at *
      have c1 := b1.cell 16
      have f1 := b1.frozen 16
      rw [← HR.out, parV_get 18 _ _ 16 16 (by omega), if_neg (Nat.lt_irrefl 16)] at c1
      have b2 := b1.set1 16 (.int .i64 (y1 : Int))
      rw [hd16.out] at b2
      have c2 := b2.cell 17
      have f2 := b2.frozen 17
      rw [← HR.out, parV_get 18 _ _ 17 17 (by omega), if_neg (Nat.lt_irrefl 17)] at c2
      have b3 := b2.set1 17 (.int .i64 (y2 : Int))
      rw [hd17.out] at b3
      have a0 := (b0.far (p := ⟨g1, 16, none⟩) d01 (.int .i64 (y1 : Int))).far (p := ⟨g1, 17, none⟩) d01 (.int .i64 (y2 : Int))
      have hB2 := (hB.setCell (p := ⟨g1, 16, none⟩) l1 (.int .i64 (y1 : Int))).setCell (p := ⟨g1, 17, none⟩) l1 (.int .i64 (y2 : Int))
      have hl0 := b0.lt
      have hl1 := b1.lt
      have hi : (Try.prog.info? 24).map (·.size) = some (R 18).size := by rw [hR18.out, rowI_size]; exact info_tI
      have ho : (R 18).all (·.oneCell') = true := by rw [hR18.out]; exact rowI_one _ _
      have hs : (R 0).size = (R 18).size := by rw [← HR.out, parV_size, parV_size]
      rw [hR18.out] at b3 hi ho hs
      clear b0 b1 b2 hB hd16 hd17 hc HR
      generalize R 0 = T0 at *
      generalize hT : rowI (digN d) 18 = T at *
      have HT := Lib.hid hT
      clear hT hR18
      go_upto_region 11 with fail
      generalize (wr.setCell ⟨g1, 16, none⟩ (.int .i64 (y1 : Int))).setCell ⟨g1, 17, none⟩ (.int .i64 (y2 : Int)) = W2 at b3 a0 hB2 ⊢
      have b0' : W2.heap[g]? = some (.cells T0 24 (0, 0)) := a0
      have b1' : W2.heap[g1]? = some (.cells T 24 (0, 0)) := b3
      have b2' : (W2.setRow g T).heap[g]? = some (.cells T 24 (0, 0)) := BoxN.setRow a0 T
      have hB3 := below_setRow hB2 (Nat.le_refl g) T
      clear c1 c2 f1 f2 m1 m2 m3 b3 a0 hB2
      go_wp2_with (first | (refine wpList_load_row rfl 24 _ rfl g1 rfl _ T _ _ b1' Try.underlying24 rfl hi ?_) | (refine wpList_store_rowTo rfl 24 _ _ rfl rfl g T rfl rfl _ T0 b0' hi hs ho ?_))
      exact bodyPost_ret (v := .agg T) (results_cell_row Try.results12 _ _ g _ T _ _ rfl b2' Try.underlying24 rfl hi) rfl ⟨by rw [HT.out], by rw [HG.out]; exact hB3⟩
end Go.Proofs.Ytaoipbndmfjmhaa
