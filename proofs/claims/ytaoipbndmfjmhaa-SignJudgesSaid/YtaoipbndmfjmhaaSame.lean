/- The contract of Same. -/
import Derived.Test.YtaoipbndmfjmhaaSub
namespace Go.Proofs.Ytaoipbndmfjmhaa
open Go.RowKit Go.Joins

def sameB (q1 : Int) (f1 : Nat → BitVec 64) (l1 : List (BitVec 64)) (q2 : Int) (f2 : Nat → BitVec 64) (l2 : List (BitVec 64)) : Bool := decide (q1 = q2) && (decide (wds 18 f1 = wds 18 f2) && decide (l1 = l2))

set_option maxRecDepth 100000 in
set_option maxHeartbeats 4000000 in
theorem same_any (q1 q2 : Int) (f1 f2 : Nat → BitVec 64) (G1 G2 : Option Addr) (c1 c2 : Nat) (l1 l2 : List (BitVec 64)) (h1 : l1.length ≤ 1000) (w : World) (hl1 : isQ G1 l1 w) (hl2 : isQ G2 l2 w) :
    Calls Try.prog 20 #[.agg (sgA q1 f1 (.slice G1 l1.length c1)), .agg (sgA q2 f2 (.slice G2 l2.length c2))] w fun e w' => e = .returned (.bool (sameB q1 f1 l1 q2 f2 l2)) ∧ Below w.heap.size w w' := by
  have b1 := (BoxN.new w 34 (sgA q1 f1 (.slice G1 l1.length c1))).alloc (.cells (sgA q2 f2 (.slice G2 l2.length c2)) 34)
  have b2 : BoxN ((w.alloc (.cells (sgA q1 f1 (.slice G1 l1.length c1)) 34)).alloc (.cells (sgA q2 f2 (.slice G2 l2.length c2)) 34)) (w.heap.size + 1) 34 (sgA q2 f2 (.slice G2 l2.length c2)) := by
    have := BoxN.new (w.alloc (.cells (sgA q1 f1 (.slice G1 l1.length c1)) 34)) 34 (sgA q2 f2 (.slice G2 l2.length c2))
    rwa [World.size_alloc] at this
  have hB : Below w.heap.size w ((w.alloc (.cells (sgA q1 f1 (.slice G1 l1.length c1)) 34)).alloc (.cells (sgA q2 f2 (.slice G2 l2.length c2)) 34)) := ((Below.refl _ w).alloc (Nat.le_refl _) _).alloc (by simp) _
  have k1 : Hid (∀ W g, BoxN W g 34 (sgA q1 f1 (.slice G1 l1.length c1)) → W.cell? ⟨g, 0, none⟩ = some (.int .i64 q1) ∧ W.cell? ⟨g, 19, none⟩ = some (.slice G1 l1.length c1)) := fun W g hb => ⟨by rw [hb.cell, sgA_key], by rw [hb.cell, sgA_path]⟩
  have k2 : Hid (∀ W g, BoxN W g 34 (sgA q2 f2 (.slice G2 l2.length c2)) → W.cell? ⟨g, 0, none⟩ = some (.int .i64 q2) ∧ W.cell? ⟨g, 19, none⟩ = some (.slice G2 l2.length c2)) := fun W g hb => ⟨by rw [hb.cell, sgA_key], by rw [hb.cell, sgA_path]⟩
  have ld1 := Lib.hid (load_chain b1)
  have ld2 := Lib.hid (load_chain b2)
  have heq : ∀ W : World, Sem.run Try.prog (Op.equalIn 10000 31 (.agg (rowW f1 18)) (.agg (rowW f2 18))) W = Result.ok (decide (wds 18 f1 = wds 18 f2)) W := equal_W f1 f2
  have hD : Hid (sameB q1 f1 l1 q2 f2 l2 = (decide (q1 = q2) && (decide (wds 18 f1 = wds 18 f2) && decide (l1 = l2)))) := rfl
  generalize sameB q1 f1 l1 q2 f2 l2 = S at *
  generalize sgA q1 f1 (.slice G1 l1.length c1) = T1 at *
  generalize sgA q2 f2 (.slice G2 l2.length c2) = T2 at *
  generalize rowW f1 18 = R1 at *
  generalize rowW f2 18 = R2 at *
  generalize decide (wds 18 f1 = wds 18 f2) = E at *
  go_enter Try.func20, Try.ntmps20
  obtain ⟨a0, a19⟩ := k1.out _ _ b1
  obtain ⟨d0, d19⟩ := k2.out _ _ b2
  by_cases hq : q1 = q2
  · subst hq
    have hqq : (q1 != q1) = false := by simp
    cases E with
    | true =>
      by_cases hn : l1.length = l2.length
      · obtain ⟨n, hn1⟩ : ∃ n, l1.length = n := ⟨_, rfl⟩
        have hn2 : l2.length = n := by rw [← hn]; exact hn1
        rw [hn1] at k1 a19
        rw [hn2] at k2 d19
        clear hn
        have hnn : ((n : Int) != (n : Int)) = false := by simp
        go_wp2_with (first | (refine wpList_load_sub (by rfl) 31 _ rfl ⟨w.heap.size, 1, none⟩ rfl (.agg R1) ld1.out ?_) | (refine wpList_load_sub (by rfl) 31 _ rfl ⟨w.heap.size + 1, 1, none⟩ rfl (.agg R2) ld2.out ?_))
        clear a0 a19 d0 d19 ld1 ld2 heq hqq hnn
        generalize (w.alloc (.cells T1 34)).alloc (.cells T2 34) = w0 at b1 b2 hB ⊢
        have hl1' := fun W (h : Below w.heap.size w W) => hl1.keep h
        have hl2' := fun W (h : Below w.heap.size w W) => hl2.keep h
        go_loopw [30] (fun i wr => ∃ k : Nat, k ≤ n ∧ i = .int .i64 k ∧ l1.take k = l2.take k ∧ BoxN wr w.heap.size 34 T1 ∧ BoxN wr (w.heap.size + 1) 34 T2 ∧ Below w.heap.size w wr)
          (fun i _ => (n - intOf i).toNat)
        case atStart => exact ⟨0, by omega, rfl, by simp, b1, b2, hB⟩
        case round =>
          clear b1 b2 hB
          obtain ⟨k, hk, rfl, htk, b1, b2, hB⟩ := hrel
          by_cases hlt : k < n
          · have hd : decide ((k : Int) < (n : Int)) = true := by simp; omega
            have hg1 : l1[k]? = some (l1[k]'(by omega)) := List.getElem?_eq_getElem _
            have hg2 : l2[k]? = some (l2[k]'(by omega)) := List.getElem?_eq_getElem _
            obtain ⟨x1, hx1⟩ : ∃ x, l1[k]'(by omega) = x := ⟨_, rfl⟩
            obtain ⟨x2, hx2⟩ : ∃ x, l2[k]'(by omega) = x := ⟨_, rfl⟩
            rw [hx1] at hg1
            rw [hx2] at hg2
            obtain ⟨e1, o1, rfl, hbl1, hr1⟩ := hl1 (by intro e; rw [e] at hn1; simp at hn1; omega)
            obtain ⟨e2, o2, rfl, hbl2, hr2⟩ := hl2 (by intro e; rw [e] at hn2; simp at hn2; omega)
            have p1 := (hB.cell (p := ⟨e1, o1 + k, none⟩) hbl1).trans (hr1 k x1 hg1)
            have p2 := (hB.cell (p := ⟨e2, o2 + k, none⟩) hbl2).trans (hr2 k x2 hg2)
            obtain ⟨a0, a19⟩ := k1.out _ _ b1
            obtain ⟨d0, d19⟩ := k2.out _ _ b2
            have ht1 := take_snoc' hg1
            have ht2 := take_snoc' hg2
            by_cases hxx : x1 = x2
            · subst hxx
              have hne : ((x1.toNat : Int) != (x1.toNat : Int)) = false := by simp
              have htt : Hid (l1.take (k + 1) = l2.take (k + 1)) := by unfold Hid; rw [ht1, ht2, htk]
              clear ht1 ht2 hx1 hx2 hg1 hg2 hr1 hr2 hl1' hl2' htk
              go_wp2_with fail
              go_quiet (fail)
              replace b1 := Lib.hid (b1.drewN nq)
              replace b2 := Lib.hid (b2.drewN nq)
              replace hB := Lib.hid (below_drewN hB nq)
              clear a0 a19 d0 d19 p1 p2
              go_wp2_with fail
              go_roundw
              case rel => exact ⟨k + 1, by omega, by go_num, htt.out, b1.out, b2.out, hB.out⟩
              case measure => simp [intOf]; omega
            · have hne : ((x1.toNat : Int) != (x2.toNat : Int)) = true := by
                simp only [bne_iff_ne, ne_eq]
                intro e
                exact hxx (BitVec.eq_of_toNat_eq (by omega))
              have hS : Hid (S = false) := by
                unfold Hid
                rw [hD.out]
                have : l1 ≠ l2 := by
                  intro e
                  rw [e] at hg1
                  rw [hg1] at hg2
                  exact hxx (Option.some.inj hg2)
                simp [this]
              clear ht1 ht2 hx1 hx2 hg1 hg2 hr1 hr2 hl1' hl2' htk hxx
              go_wp2_with fail
              go_quiet (fail)
              replace hB := Lib.hid (below_drewN hB nq)
              clear a0 a19 d0 d19 p1 p2
              go_wp2_with fail
              go_ret
              exact ⟨by rw [hS.out]; rfl, hB.out⟩
          · obtain rfl : k = n := by omega
            have hS : Hid (S = true) := by
              unfold Hid
              rw [hD.out]
              rw [List.take_of_length_le (by omega), List.take_of_length_le (by omega)] at htk
              simp [htk]
            clear htk
            go_wp2_with fail
            go_ret
            exact ⟨by rw [hS.out]; rfl, hB⟩
      · have hnn : ((l1.length : Int) != (l2.length : Int)) = true := by simp only [bne_iff_ne, ne_eq]; omega
        have hS : Hid (S = false) := by
          unfold Hid
          rw [hD.out]
          have : l1 ≠ l2 := fun e => hn (by rw [e])
          simp [this]
        go_wp2_with (first | (refine wpList_load_sub (by rfl) 31 _ rfl ⟨w.heap.size, 1, none⟩ rfl (.agg R1) ld1.out ?_) | (refine wpList_load_sub (by rfl) 31 _ rfl ⟨w.heap.size + 1, 1, none⟩ rfl (.agg R2) ld2.out ?_))
        go_ret
        exact ⟨by rw [hS.out]; rfl, hB⟩
    | false =>
      go_wp2_with (first | (refine wpList_load_sub (by rfl) 31 _ rfl ⟨w.heap.size, 1, none⟩ rfl (.agg R1) ld1.out ?_) | (refine wpList_load_sub (by rfl) 31 _ rfl ⟨w.heap.size + 1, 1, none⟩ rfl (.agg R2) ld2.out ?_))
      go_ret
      exact ⟨by rw [hD.out]; simp, hB⟩
  · have hqq : (q1 != q2) = true := by simpa using hq
    go_wp2_with fail
    go_ret
    exact ⟨by rw [hD.out]; simp [hq], hB⟩
end Go.Proofs.Ytaoipbndmfjmhaa
