/- SignTells: a valid height, up to whether the key is valid. -/
import Derived.Test.YtaoipbndmfjmhaaTlA
namespace Go.Proofs.Ytaoipbndmfjmhaa
open Go.RowKit Go.Joins
namespace Tll
set_option maxRecDepth 100000 in
set_option maxHeartbeats 8000000 in
noncomputable def good : Cut4 step.p1 := by
  refine ⟨?p1, ?p2, ?p3, ?p4, fun H1 H2 H3 H4 => ?main⟩
  case main =>
    unfold step
    intro seed d h q i k w HW T X Y hx1 hy1 Hbig ztlGood0 u17 u18 u19 u20 u21 hwc w1 w2 w3 w4 w5 w6 hB ztlGood1 ztlGood2 ztlGood3 ztlGood4 hk
    unfold okH at hk
    have hk2 := of_decide_eq_true hk
    obtain ⟨n, rfl⟩ := Int.eq_ofNat_of_zero_le hk2.1
    have hn3 : n ≤ 3 := by have := Hbig.out; omega
    have HR : Hid (∀ W : World, _) := fun W => root_ok seed n (by omega) W
    have HNd : Hid (∀ W : World, Calls Try.prog 21 #[U64 seed, .int .i64 n, .int .i64 0] W fun e w' => e = .returned (U64 (rootV seed n)) ∧ Below W.heap.size W w') := fun W => by
      have := rnode_any seed n 0 (by rw [Nat.zero_add, Nat.one_mul]; exact Nat.le_trans (Nat.pow_le_pow_right (by decide) hn3) (by decide)) W
      rwa [← nd_node seed n n 0 (Nat.le_refl _) (by rw [Nat.sub_self]; decide)] at this
    have HV0 : Hid (∀ W : World, Calls Try.prog 19 #[.int .i64 n, .int .i64 0] W fun e w' => e = .returned (.bool true) ∧ w' = W) := fun W => by
      have := rvalid_any n 0 W
      rwa [show okK 0 (n : Int) = true by unfold okK; rw [decide_eq_true_iff]; refine ⟨hk2, by omega, ?_⟩; exact Int.pow_pos (by decide)] at this
    obtain ⟨V, hV⟩ : ∃ V, rootV seed n = V := ⟨_, rfl⟩
    rw [hV] at HR HNd
    have hv1 : ((V.toNat : Int) != (V.toNat : Int)) = false := by simp
    have hzs := zero_sig
    clear hk hk2 hV Hbig
    by_cases hq : okK q (n : Int) = true
    · obtain ⟨m, rfl⟩ : ∃ m : Nat, q = m := by
        unfold okK at hq
        have := of_decide_eq_true hq
        exact Int.eq_ofNat_of_zero_le this.2.1
      have hm : m < 2 ^ n := by
        unfold okK at hq
        have := (of_decide_eq_true hq).2.2
        rw [Int.toNat_natCast] at this
        have h2 : ((2 ^ n : Nat) : Int) = (2 : Int) ^ n := Int.natCast_pow 2 n
        omega
      have HVq : Hid (∀ W : World, Calls Try.prog 19 #[.int .i64 n, .int .i64 m] W fun e w' => e = .returned (.bool true) ∧ w' = W) := fun W => by
        have := rvalid_any n m W
        rwa [hq] at this
      have HSg : Hid (∀ W : World, _) := fun W => sign_ok seed d n m (by omega) hm W
      have HRs : Hid (∀ W : World, _) := fun W => rsign_any seed d n m (by omega) hm W
      have HSa : Hid (∀ (G1 G2 : Option Addr) (c1 c2 : Nat) (W : World), isQ G1 (pathV seed n m) W → isQ G2 (pathV seed n m) W → Calls Try.prog 20 #[.agg (sgA m (chainV seed d m) (.slice G1 n c1)), .agg (sgA m (chainV seed d m) (.slice G2 n c2))] W fun e w' => e = .returned (.bool true) ∧ Below W.heap.size W w') := fun G1 G2 c1 c2 W h1 h2 => by
        have := same_any m m (chainV seed d m) (chainV seed d m) G1 G2 c1 c2 (pathV seed n m) (pathV seed n m) (by rw [pathV_len]; omega) W h1 h2
        rw [pathV_len, show sameB m (chainV seed d m) (pathV seed n m) m (chainV seed d m) (pathV seed n m) = true by simp [sameB]] at this
        exact this
      have hT1 : Hid (∀ G c, (Try.prog.info? 34).map (·.size) = some (sgA (m : Int) (chainV seed d m) (.slice G n c)).size) := fun G c => by rw [sgA_size]; exact info_sig
      have hT2 : Hid (∀ G c, (sgA (m : Int) (chainV seed d m) (.slice G n c)).all (·.oneCell') = true) := fun G c => sgA_one _ _ _ rfl
      have hT3 : Hid (∀ G c, (sgA (m : Int) (chainV seed d m) (.slice G n c)).size = 20) := fun G c => sgA_size _ _ _
      obtain ⟨T', hT'⟩ : ∃ T' : Option Addr → Nat → Array Value, (fun G c => sgA (m : Int) (chainV seed d m) (.slice G n c)) = T' := ⟨_, rfl⟩
      have eT : ∀ G c, sgA (m : Int) (chainV seed d m) (.slice G n c) = T' G c := fun G c => congrFun (congrFun hT' G) c
      simp only [eT] at HSg HRs HSa hT1 hT2 hT3
      generalize pathV seed n m = PV at *
      obtain ⟨Z, hZ⟩ : ∃ Z, (#[.int .i64 0, .int .u64 0, .int .u64 0, .int .u64 0, .int .u64 0, .int .u64 0, .int .u64 0, .int .u64 0, .int .u64 0, .int .u64 0, .int .u64 0, .int .u64 0, .int .u64 0, .int .u64 0, .int .u64 0, .int .u64 0, .int .u64 0, .int .u64 0, .int .u64 0, .slice none 0 0] : Array Value) = Z := ⟨_, rfl⟩
      have hZs : Z.size = 20 := by rw [← hZ]; rfl
      rw [hZ] at hzs
      clear hZ hT' eT hq hm
      (with_reducible refine (HR.out _).mono ?_); rintro e v1 ⟨rfl, hb1⟩
      replace hB := hB.trans (hb1.mono hB.size)
      clear hb1
      go_wp2_with fail
      (with_reducible refine (HSg.out _).mono ?_); rintro e v2 ⟨G1, c1, rfl, hQ1, hb1⟩
      replace hB := hB.trans (hb1.mono hB.size)
      clear hb1
      have hXi := hT1.out G1 c1
      have hXo := hT2.out G1 c1
      have hXz : Z.size = (T' G1 c1).size := by rw [hT3.out, hZs]
      have hSa1 : Hid (∀ (G2 : Option Addr) (c2 : Nat) (W : World), isQ G1 PV W → isQ G2 PV W → _) := fun G2 c2 W h1 h2 => HSa.out G1 G2 c1 c2 W h1 h2
      generalize T' G1 c1 = X at *
      have bN := BoxN.new v2 34 Z
      have bX : BoxN ((v2.alloc (.cells Z 34)).setRow v2.heap.size X) v2.heap.size 34 X := bN.setRow _
      have hBy : Below v2.heap.size v2 ((v2.alloc (.cells Z 34)).setRow v2.heap.size X) := below_setRow ((Below.refl _ v2).alloc (Nat.le_refl _) _) (Nat.le_refl _) X
      replace hQ1 := hQ1.keep hBy
      replace hB := hB.trans (hBy.mono hB.size)
      go_wp2_with (refine wpList_store_rowTo rfl 34 _ _ rfl rfl v2.heap.size X rfl rfl _ Z bN hXi hXz hXo ?_)
      generalize (v2.alloc (.cells Z 34)).setRow v2.heap.size X = v3 at bX hQ1 hB ⊢
      generalize v2.heap.size = g at bX ⊢
      clear bN hBy hXo hXz hzs hZs
      (with_reducible refine (HV0.out _).mono ?_); rintro e v4 ⟨rfl, rfl⟩
      go_wp2_with fail
      (with_reducible refine (HNd.out _).mono ?_); rintro e v5 ⟨rfl, hb1⟩
      replace bX := bX.keep hb1
      replace hQ1 := hQ1.keep hb1
      replace hB := hB.trans (hb1.mono hB.size)
      clear hb1
      go_wp2_with fail
      (with_reducible refine (HVq.out _).mono ?_); rintro e v6 ⟨rfl, rfl⟩
      clear HR HNd HV0 HVq HSg HSa hT1 hT2 hT3
      go_upto_region 13 with fail
      rename_i ztlKey0 ztlKey1 ztlKey2
      clear H2 H3 H4
      revert seed d i k w HW T ztlKey0 Y hx1 hy1 ztlGood0 u17 u18 u19 u20 u21 hwc w1 w2 w3 w4 w5 w6 n hn3 V hv1 m T' PV HRs Z v1 v2 G1 c1 X hXi hSa1 g v4 v6 bX hQ1 hB ztlKey1 ztlKey2
      exact H1.out
    ·
      clear H1 H3 H4
      revert seed d q i k w HW T X Y hx1 hy1 ztlGood0 u17 u18 u19 u20 u21 hwc w1 w2 w3 w4 w5 w6 hB ztlGood1 ztlGood2 ztlGood3 ztlGood4 n hn3 HV0 V HNd HR hv1 hzs hq
      exact H2.out
  all_goals exact True
end Tll
end Go.Proofs.Ytaoipbndmfjmhaa
