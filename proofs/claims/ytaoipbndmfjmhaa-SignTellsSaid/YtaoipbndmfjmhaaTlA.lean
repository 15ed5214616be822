/- SignTells: its walk up to the root. -/
import Derived.Test.YtaoipbndmfjmhaaAwake
import Derived.Test.YtaoipbndmfjmhaaNil
import Derived.Test.YtaoipbndmfjmhaaRfL
namespace Go.Proofs.Ytaoipbndmfjmhaa
open Go.RowKit Go.Joins
theorem part_I (f : Nat → Nat) (i : Nat) (h : i < 18) (w : World) : (part 3 (rowI f 18) (i * 1)).run Try.prog w = .ok (.int .i64 (f i : Int)) w := by
  have := rowI_get f 18 i h
  rw [Nat.mul_one]
  simp [part, go_sem, this]
theorem items_I (f : Nat → Nat) (d : Nat) (w : World) : ∀ is : List Nat, (∀ i ∈ is, i < 18) → (Op.eqItems (d + 1) 3 1 (rowI f 18) (rowI f 18) is).run Try.prog w = .ok true w
  | [], _ => rfl
  | i :: is, h => by
    have hi := h i List.mem_cons_self
    have ih := items_I f d w is fun j hj => h j (List.mem_cons_of_mem _ hj)
    simp only [Op.eqItems, Sem.run_bind, part_I f i hi, Result.andThen_ok, run_equalIn_int w d 3 .i64 .i64 _ _ Try.underlying3]
    simp [ih]
theorem equal_I (f : Nat → Nat) (w : World) : (Op.equal 24 (.agg (rowI f 18)) (.agg (rowI f 18))).run Try.prog w = .ok true w := by
  obtain ⟨i0, hi⟩ : ∃ i0, Try.prog.info? 24 = some i0 := by
    cases hq : Try.prog.info? 24 with
    | none => have := info_tI; rw [hq] at this; cases this
    | some i0 => exact ⟨i0, rfl⟩
  obtain ⟨i1, hi1⟩ : ∃ i1, Try.prog.info? 3 = some i1 := by
    cases hq : Try.prog.info? 3 with
    | none => exact absurd (show (Try.prog.info? 3).isSome = true by kernel_rfl) (by rw [hq]; simp)
    | some i1 => exact ⟨i1, rfl⟩
  unfold Op.equal
  rw [show Op.maxDepth = 9999 + 1 from rfl, run_equalIn_array w 9999 _ _ Try.underlying24 hi1, show Try.prog.cellsOf 3 = 1 by kernel_rfl, show 9999 = 9998 + 1 from rfl, items_I f 9998 w _ (fun i h => List.mem_range.1 h)]
namespace Tll
set_option maxRecDepth 100000 in
set_option maxHeartbeats 8000000 in
noncomputable def step : Cut4 (∀ (seed d : BitVec 64) (h q i k : Int) (w : World),
    Calls Try.prog 3 #[U64 seed, .int .i64 h, .int .i64 q, U64 d, .int .i64 i, .int .i64 k] w fun e w' => e = .returned (.bool true) ∧ Below w.heap.size w w') := by
  refine ⟨?p1, ?p2, ?p3, ?p4, fun H1 H2 H3 H4 => ?main⟩
  case main =>
    intro seed d h q i k w
    have HW : Hid (∀ W : World, _) := fun W => awake_true W
    have HD : Hid (∀ W : World, _) := fun W => digits_any d W
    have HDr : Hid (∀ W : World, _) := fun W => rdigits_any d W
    have HS : Hid (∀ W : World, _) := fun W => step_any i k d W
    have HSr : Hid (∀ W : World, _) := fun W => rstep_any i k d W
    have HP : Hid (∀ W : World, _) := fun W => pubK_any seed q W
    have HPr : Hid (∀ W : World, _) := fun W => rpub_any seed q W
    have heq : ∀ W : World, Sem.run Try.prog (Op.equalIn 10000 24 (.agg (rowI (digN d) 18)) (.agg (rowI (digN d) 18))) W = Result.ok true W := equal_I (digN d)
    generalize rowI (digN d) 18 = T at *
    obtain ⟨X, hX⟩ : ∃ X, stp i k d = X := ⟨_, rfl⟩
    rw [hX] at HS HSr
    obtain ⟨Y, hY⟩ : ∃ Y, pubK seed q = Y := ⟨_, rfl⟩
    rw [hY] at HP HPr
    have hx1 : ((X.toNat : Int) != (X.toNat : Int)) = false := by simp
    have hy1 : ((Y.toNat : Int) != (Y.toNat : Int)) = false := by simp
    clear hX hY
    have hB := Below.refl w.heap.size w
    go_enter Try.func3, Try.ntmps3
    by_cases hbig : 3 < h ∧ h ≤ 6
    · have h1 : decide (3 < h) = true := decide_eq_true hbig.1
      have h2 : decide (h ≤ 6) = true := decide_eq_true hbig.2
      clear hbig
      go_wp2_with fail
      (with_reducible refine (HW.out _).mono ?_); rintro e w1 ⟨rfl, hb1⟩
      go_wp2_with fail
      go_ret
      exact ⟨rfl, hb1⟩
    have hor : (decide (3 < h) = false) ∨ (decide (3 < h) = true ∧ decide (h ≤ 6) = false) := by
      by_cases h1 : 3 < h
      · exact .inr ⟨decide_eq_true h1, decide_eq_false fun h2 => hbig ⟨h1, h2⟩⟩
      · exact .inl (decide_eq_false h1)
    have Hbig := Lib.hid hbig
    clear hbig
    go_upto_region 1 with fail
    go_cut [22] from 17 to 22 (fun s22 wx => s22 = .bool false ∧ wx = w)
    case first =>
      rcases hor with h1 | ⟨h1, h2⟩
      · go_wp2_with fail
        go_meet
        exact ⟨rfl, rfl⟩
      · go_wp2_with fail
        go_meet
        exact ⟨rfl, rfl⟩
    case rest =>
    obtain ⟨hs22, hwc⟩ := hcut
    subst hs22
    obtain rfl : w = wc := hwc.symm
    clear hor
    go_wp2_with fail
    (with_reducible refine (HD.out _).mono ?_); rintro e w1 ⟨rfl, hb1⟩
    replace hB := hB.trans (hb1.mono hB.size)
    clear hb1
    go_wp2_with fail
    (with_reducible refine (HDr.out _).mono ?_); rintro e w2 ⟨rfl, hb1⟩
    replace hB := hB.trans (hb1.mono hB.size)
    clear hb1
    go_wp2_with fail
    (with_reducible refine (HS.out _).mono ?_); rintro e w3 ⟨rfl, hb1⟩
    replace hB := hB.trans (hb1.mono hB.size)
    clear hb1
    go_wp2_with fail
    (with_reducible refine (HSr.out _).mono ?_); rintro e w4 ⟨rfl, hb1⟩
    replace hB := hB.trans (hb1.mono hB.size)
    clear hb1
    go_wp2_with fail
    (with_reducible refine (HP.out _).mono ?_); rintro e w5 ⟨rfl, hb1⟩
    replace hB := hB.trans (hb1.mono hB.size)
    clear hb1
    go_wp2_with fail
    (with_reducible refine (HPr.out _).mono ?_); rintro e w6 ⟨rfl, hb1⟩
    replace hB := hB.trans (hb1.mono hB.size)
    clear hb1 heq HD HDr HS HSr HP HPr
    go_wp2_with fail
    by_cases hk : okH h = true
    ·
      rename_i ztlGood0 ztlGood1 ztlGood2 ztlGood3 ztlGood4
      clear H2 H3 H4
      revert seed d h q i k w HW T X Y hx1 hy1 Hbig ztlGood0 u17 u18 u19 u20 u21 hwc w1 w2 w3 w4 w5 w6 hB ztlGood1 ztlGood2 ztlGood3 ztlGood4 hk
      exact H1.out
    ·
      rename_i ztlBad0 ztlBad1 ztlBad2 ztlBad3 ztlBad4
      clear H1 H3 H4
      revert seed d h q i k w HW T X Y hx1 hy1 Hbig ztlBad0 u17 u18 u19 u20 u21 hwc w1 w2 w3 w4 w5 w6 hB ztlBad1 ztlBad2 ztlBad3 ztlBad4 hk
      exact H2.out
  all_goals exact True
end Tll
end Go.Proofs.Ytaoipbndmfjmhaa
