/- The examples of the chapter. -/
import Derived.Test.YtaoipbndmfjmhaaSign
import Derived.Test.YtaoipbndmfjmhaaEnc
namespace Go.Proofs.Ytaoipbndmfjmhaa
open Go.RowKit Go.Joins

theorem rootV_zero (seed : BitVec 64) : rootV seed 0 = pubK seed 0 := by
  unfold rootV node
  rw [lev]
  rfl
theorem dig0 : ∀ i, i < 16 → digN 0#64 i = 0 := by decide
theorem dig1 : ∀ i, i < 16 → digN 18446744073709551615#64 i = 15 := by decide
theorem dig2 : ∀ i, i < 16 → digN 1#64 i = if i = 0 then 1 else 0 := by decide

set_option maxRecDepth 100000 in
set_option maxHeartbeats 4000000 in
theorem awake_true (w : World) :
    Calls Try.prog 10 #[] w fun e w' => e = .returned (.bool true) ∧ Below w.heap.size w w' := by
  have HD0 : Hid (∀ W : World, Calls Try.prog 11 #[.int .u64 0] W fun e w' => e = .returned (.agg (rowI (digN 0#64) 18)) ∧ Below W.heap.size W w') := fun W => digits_any 0#64 W
  have HD1 : Hid (∀ W : World, Calls Try.prog 11 #[.int .u64 18446744073709551615] W fun e w' => e = .returned (.agg (rowI (digN 18446744073709551615#64) 18)) ∧ Below W.heap.size W w') := fun W => digits_any 18446744073709551615#64 W
  have HD2 : Hid (∀ W : World, Calls Try.prog 11 #[.int .u64 1] W fun e w' => e = .returned (.agg (rowI (digN 1#64) 18)) ∧ Below W.heap.size W w') := fun W => digits_any 1#64 W
  obtain ⟨y, hy⟩ : ∃ y, pubK 7#64 0 = y := ⟨_, rfl⟩
  have HR : Hid (∀ W : World, Calls Try.prog 17 #[.int .u64 7, .int .i64 0] W fun e w' => e = .returned (.tuple #[U64 y, .int .i64 0]) ∧ Below W.heap.size W w') := fun W => by
    have := root_ok 7#64 0 (by decide) W
    rw [rootV_zero, hy] at this
    exact this
  have HP : Hid (∀ W : World, Calls Try.prog 15 #[.int .u64 7, .int .i64 0] W fun e w' => e = .returned (U64 y) ∧ Below W.heap.size W w') := fun W => by
    have := pubK_any 7#64 0 W
    rw [hy] at this
    exact this
  have hpl : (pathV 7#64 2 3).length = 2 := pathV_len _ _ _
  have HS : Hid (∀ W : World, Calls Try.prog 18 #[.int .u64 7, .int .i64 2, .int .i64 3, .int .u64 99] W fun e w' => ∃ G c, e = .returned (.tuple #[.agg (sgA 3 (chainV 7#64 99#64 3) (.slice G 2 c)), .int .i64 0]) ∧ isQ G (pathV 7#64 2 3) w' ∧ Below W.heap.size W w') := fun W =>
    sign_ok 7#64 99#64 2 3 (by decide) (by decide) W
  have HE : Hid (∀ (G : Option Addr) (c : Nat) (W : World), isQ G (pathV 7#64 2 3) W → Calls Try.prog 23 #[.agg (sgA 3 (chainV 7#64 99#64 3) (.slice G 2 c))] W fun e w' => ∃ G' c', e = .returned (.tuple #[.slice G' 162 c', .int .i64 0]) ∧ Below W.heap.size W w') := fun G c W h => by
    have := encode_ok 3 (chainV 7#64 99#64 3) G c (pathV 7#64 2 3) (by rw [hpl]; decide) W h
    rw [hpl] at this
    refine this.mono ?_
    rintro e w' ⟨G', c', rfl, _, h3⟩
    exact ⟨G', c', rfl, h3⟩
  have h19 : Hid (∀ p, (sgA 3 (chainV 7#64 99#64 3) p)[19]? = some p) := fun p => sgA_path _ _ p
  have hsz : Hid (∀ p, (sgA 3 (chainV 7#64 99#64 3) p).size = 20) := fun p => sgA_size _ _ p
  have hon : Hid (∀ G c, (sgA 3 (chainV 7#64 99#64 3) (.slice G 2 c)).all (·.oneCell') = true) := fun G c => sgA_one _ _ _ rfl
  generalize pathV 7#64 2 3 = pl at *
  generalize sgA 3 (chainV 7#64 99#64 3) = Sg at *
  have t0 : Hid (∀ i, i < 18 → (rowI (digN 0#64) 18)[i]? = some (.int .i64 (digN 0#64 i : Int))) := fun i h => rowI_get _ _ _ h
  have t1 : Hid (∀ i, i < 18 → (rowI (digN 18446744073709551615#64) 18)[i]? = some (.int .i64 (digN 18446744073709551615#64 i : Int))) := fun i h => rowI_get _ _ _ h
  have t2 : Hid (∀ i, i < 18 → (rowI (digN 1#64) 18)[i]? = some (.int .i64 (digN 1#64 i : Int))) := fun i h => rowI_get _ _ _ h
  have s0 : Hid ((rowI (digN 0#64) 18).size = 18) := rowI_size _ _
  have s1 : Hid ((rowI (digN 18446744073709551615#64) 18).size = 18) := rowI_size _ _
  have s2 : Hid ((rowI (digN 1#64) 18).size = 18) := rowI_size _ _
  have o0 := rowI_one (digN 0#64) 18
  have o1 := rowI_one (digN 18446744073709551615#64) 18
  have o2 := rowI_one (digN 1#64) 18
  generalize rowI (digN 0#64) 18 = T0 at *
  generalize rowI (digN 18446744073709551615#64) 18 = T1 at *
  generalize rowI (digN 1#64) 18 = T2 at *
  have hz := zero_tI (fun _ => .int .i64 0)
  obtain ⟨Z, hZ⟩ : ∃ Z, parV 18 (fun _ => Value.int .i64 0) (.int .i64 0) 0 = Z := ⟨_, rfl⟩
  rw [hZ] at hz
  have hZs : Z.size = 18 := by rw [← hZ, parV_size]
  clear hZ hpl hy
  have hi0 : (Try.prog.info? 24).map (·.size) = some T0.size := by rw [s0.out]; exact info_tI
  have hi1 : (Try.prog.info? 24).map (·.size) = some T1.size := by rw [s1.out]; exact info_tI
  have hi2 : (Try.prog.info? 24).map (·.size) = some T2.size := by rw [s2.out]; exact info_tI
  have z0 : Z.size = T0.size := by rw [s0.out, hZs]
  have z1 : Z.size = T1.size := by rw [s1.out, hZs]
  have z2 : Z.size = T2.size := by rw [s2.out, hZs]
  go_enter Try.func10, Try.ntmps10
  have hB := Below.refl w.heap.size w
  go_wp2_with fail
  (with_reducible refine (HD0.out _).mono ?_); rintro e w1 ⟨rfl, hb1⟩
  replace hB := hB.trans (hb1.mono hB.size)
  clear hb1
  go_wp2_with fail
  (with_reducible refine (HD1.out _).mono ?_); rintro e w2 ⟨rfl, hb2⟩
  replace hB := hB.trans (hb2.mono hB.size)
  clear hb2
  go_wp2_with fail
  (with_reducible refine (HD2.out _).mono ?_); rintro e w3 ⟨rfl, hb3⟩
  replace hB := hB.trans (hb3.mono hB.size)
  clear hb3
  have b0 : BoxN (((w3.alloc (.cells Z 24)).alloc (.cells Z 24)).alloc (.cells Z 24)) w3.heap.size 24 Z := ((BoxN.new w3 _ _).alloc _).alloc _
  have b1 : BoxN (((w3.alloc (.cells Z 24)).alloc (.cells Z 24)).alloc (.cells Z 24)) (w3.heap.size + 1) 24 Z := by
    have := (BoxN.new (w3.alloc (.cells Z 24)) 24 Z).alloc (.cells Z 24)
    rwa [World.size_alloc] at this
  have b2 : BoxN (((w3.alloc (.cells Z 24)).alloc (.cells Z 24)).alloc (.cells Z 24)) (w3.heap.size + 1 + 1) 24 Z := by
    have := BoxN.new ((w3.alloc (.cells Z 24)).alloc (.cells Z 24)) 24 Z
    rwa [World.size_alloc, World.size_alloc] at this
  have hz3 := hB.size
  have hBa : Below w.heap.size w (((w3.alloc (.cells Z 24)).alloc (.cells Z 24)).alloc (.cells Z 24)) := ((hB.alloc hz3 _).alloc (by simp; omega) _).alloc (by simp; omega) _
  have r0 := BoxN.setRow b0 T0
  have r1 := BoxN.farRow b1 (g := w3.heap.size) (by omega) T0
  have r2 := BoxN.farRow b2 (g := w3.heap.size) (by omega) T0
  have q1 := BoxN.setRow r1 T1
  have q0 := BoxN.farRow r0 (g := w3.heap.size + 1) (by omega) T1
  have q2 := BoxN.farRow r2 (g := w3.heap.size + 1) (by omega) T1
  have p2 := BoxN.setRow q2 T2
  have p0 := BoxN.farRow q0 (g := w3.heap.size + 1 + 1) (by omega) T2
  have p1 := BoxN.farRow q1 (g := w3.heap.size + 1 + 1) (by omega) T2
  have hBc := below_setRow (below_setRow (below_setRow hBa hz3 T0) (g := w3.heap.size + 1) (by omega) T1) (g := w3.heap.size + 1 + 1) (by omega) T2
  go_wp2_with (first | (refine wpList_store_rowTo rfl 24 _ _ rfl rfl w3.heap.size T0 rfl rfl _ Z b0 hi0 z0 o0 ?_) | (refine wpList_store_rowTo rfl 24 _ _ rfl rfl (w3.heap.size + 1) T1 rfl rfl _ Z r1 hi1 z1 o1 ?_) | (refine wpList_store_rowTo rfl 24 _ _ rfl rfl (w3.heap.size + 1 + 1) T2 rfl rfl _ Z q2 hi2 z2 o2 ?_))
  clear b0 b1 b2 r0 r1 r2 q0 q1 q2 hBa hB hz z0 z1 z2 hi0 hi1 hi2 o0 o1 o2 hZs
  generalize ((((((w3.alloc (.cells Z 24)).alloc (.cells Z 24)).alloc (.cells Z 24)).setRow w3.heap.size T0).setRow (w3.heap.size + 1) T1).setRow (w3.heap.size + 1 + 1) T2) = W3 at p0 p1 p2 hBc ⊢
  generalize w3.heap.size = g0 at p0 p1 p2 hz3 ⊢
  go_loopw [14] (fun i wr => ∃ k : Nat, k ≤ 16 ∧ i = .int .i64 k ∧ wr = W3)
    (fun i _ => (16 - intOf i).toNat)
  case atStart => exact ⟨0, by omega, rfl, rfl⟩
  case round =>
    obtain ⟨k, hk, rfl, rfl⟩ := hrel
    by_cases hlt : k < 16
    · have hd : decide ((k : Int) < 16) = true := by simp; omega
      have c0 := p0.cell k
      have c1 := p1.cell k
      have c2 := p2.cell k
      rw [t0.out k (by omega), dig0 k hlt] at c0
      rw [t1.out k (by omega), dig1 k hlt] at c1
      rw [t2.out k (by omega), dig2 k hlt] at c2
      by_cases hk0 : k = 0
      · subst hk0
        rw [if_pos rfl] at c2
        go_wp2_with fail
        go_roundw
        case rel => exact ⟨1, by omega, rfl, by first | rfl | trivial⟩
        case measure => simp [intOf]
      · rw [if_neg hk0] at c2
        have hd0 : decide ((0 : Int) < (k : Int)) = true := by simp; omega
        go_wp2_with fail
        all_goals
          go_roundw
          case rel => exact ⟨k + 1, by omega, by go_num, by first | rfl | trivial⟩
          case measure => simp [intOf]; omega
    · obtain rfl : k = 16 := by omega
      clear hlt hk
      have hB := hBc
      clear hBc
      go_wp2_with fail
      (with_reducible refine (HR.out _).mono ?_); rintro e w4 ⟨rfl, hb4⟩
      replace p0 := p0.keep hb4
      replace p1 := p1.keep hb4
      replace p2 := p2.keep hb4
      replace hB := hB.trans (hb4.mono hB.size)
      clear hb4
      go_wp2_with fail
      (with_reducible refine (HS.out _).mono ?_); rintro e w5 ⟨G, c, rfl, hq, hb5⟩
      replace p0 := p0.keep hb5
      replace p1 := p1.keep hb5
      replace p2 := p2.keep hb5
      replace hB := hB.trans (hb5.mono hB.size)
      clear hb5
      have hzs := zero_sig
      obtain ⟨Y, hY⟩ : ∃ Y, (#[.int .i64 0, .int .u64 0, .int .u64 0, .int .u64 0, .int .u64 0, .int .u64 0, .int .u64 0, .int .u64 0, .int .u64 0, .int .u64 0, .int .u64 0, .int .u64 0, .int .u64 0, .int .u64 0, .int .u64 0, .int .u64 0, .int .u64 0, .int .u64 0, .int .u64 0, .slice none 0 0] : Array Value) = Y := ⟨_, rfl⟩
      rw [hY] at hzs
      have hYs : Y.size = (Sg (.slice G 2 c)).size := by rw [hsz.out, ← hY]; rfl
      have hiY : (Try.prog.info? 34).map (·.size) = some (Sg (.slice G 2 c)).size := by rw [hsz.out]; exact info_sig
      have hoY := hon.out G c
      have H19 := Lib.hid (h19.out (.slice G 2 c))
      have HEs := Lib.hid (fun W h => HE.out G c W h)
      clear hY
      have bY := BoxN.new w5 34 Y
      have bS : BoxN ((w5.alloc (.cells Y 34)).setRow w5.heap.size (Sg (.slice G 2 c))) w5.heap.size 34 (Sg (.slice G 2 c)) := bY.setRow _
      replace p0 := BoxN.farRow (p0.alloc (.cells Y 34)) (g := w5.heap.size) (by have := p0.lt; omega) (Sg (.slice G 2 c))
      replace p1 := BoxN.farRow (p1.alloc (.cells Y 34)) (g := w5.heap.size) (by have := p1.lt; omega) (Sg (.slice G 2 c))
      replace p2 := BoxN.farRow (p2.alloc (.cells Y 34)) (g := w5.heap.size) (by have := p2.lt; omega) (Sg (.slice G 2 c))
      have hz5 := hB.size
      have hq6 : isQ G pl ((w5.alloc (.cells Y 34)).setRow w5.heap.size (Sg (.slice G 2 c))) := hq.keep (below_setRow ((Below.refl _ w5).alloc (Nat.le_refl _) _) (Nat.le_refl _) _)
      replace hB := below_setRow (hB.alloc hz5 (.cells Y 34)) hz5 (Sg (.slice G 2 c))
      go_wp2_with (first | (refine wpList_store_rowTo rfl 34 _ _ rfl rfl w5.heap.size (Sg (.slice G 2 c)) rfl rfl _ Y bY hiY hYs hoY ?_) | (refine wpList_load_row rfl 34 _ rfl w5.heap.size rfl _ (Sg (.slice G 2 c)) _ _ bS Try.underlying34 rfl hiY ?_))
      (with_reducible refine (HEs.out _ hq6).mono ?_); rintro e w7 ⟨G', c', rfl, hb7⟩
      replace p0 := p0.keep hb7
      replace p1 := p1.keep hb7
      replace p2 := p2.keep hb7
      replace bS := bS.keep hb7
      replace hB := hB.trans (hb7.mono hB.size)
      clear hb7 hq6 bY hYs hiY hoY hzs HEs
      have a0 := p0.cell 16
      have a1 := p0.cell 17
      have a2 := p1.cell 16
      have a3 := p1.cell 17
      have a4 := p2.cell 0
      have a5 := p2.cell 16
      have a6 := p2.cell 17
      rw [t0.out 16 (by decide), show digN 0#64 16 = 0 by decide] at a0
      rw [t0.out 17 (by decide), show digN 0#64 17 = 15 by decide] at a1
      rw [t1.out 16 (by decide), show digN 18446744073709551615#64 16 = 0 by decide] at a2
      rw [t1.out 17 (by decide), show digN 18446744073709551615#64 17 = 0 by decide] at a3
      rw [t2.out 0 (by decide), show digN 1#64 0 = 1 by decide] at a4
      rw [t2.out 16 (by decide), show digN 1#64 16 = 15 by decide] at a5
      rw [t2.out 17 (by decide), show digN 1#64 17 = 14 by decide] at a6
      clear p0 p1 p2
      go_wp2_with fail
      (with_reducible refine (HP.out _).mono ?_); rintro e w8 ⟨rfl, hb8⟩
      replace bS := bS.keep hb8
      replace hB := hB.trans (hb8.mono hB.size)
      have c19 := bS.cell 19
      rw [H19.out] at c19
      clear hb8 bS a0 a1 a2 a3 a4 a5 a6
      go_wp2_with fail
      go_ret
      exact ⟨rfl, hB⟩
end Go.Proofs.Ytaoipbndmfjmhaa
