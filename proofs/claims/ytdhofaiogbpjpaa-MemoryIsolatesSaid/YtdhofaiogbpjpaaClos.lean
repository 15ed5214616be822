/- The closures: overlap, Valid$1, of$1, around$1, sizesValid$1, Contains. -/
import Derived.Test.YtdhofaiogbpjpaaSize
namespace Go.Proofs.Ytdhofaiogbpjpaa
open Go.RowKit Go.Joins
namespace Me
theorem max2 (a b m : Int) (hm : m = max a b) (t : Array TypeId) (ty : TypeId) (W : World) : (Builtin.max_ t ty #[.int .i64 a, .int .i64 b]).run Try.prog W = .ok (.int .i64 m) W := by
  simp only [Builtin.max_, Builtin.max2, List.foldlM, bind_pure]
  simp only [Sem.run_pure, Result.ok.injEq, Value.int.injEq, true_and, and_true]
  omega
theorem min2 (a b m : Int) (hm : m = min a b) (t : Array TypeId) (ty : TypeId) (W : World) : (Builtin.min_ t ty #[.int .i64 a, .int .i64 b]).run Try.prog W = .ok (.int .i64 m) W := by
  simp only [Builtin.min_, Builtin.min2, List.foldlM, bind_pure]
  simp only [Sem.run_pure, Result.ok.injEq, Value.int.injEq, true_and, and_true]
  omega
set_option maxHeartbeats 2000000 in
theorem overlap_any (mem : Int) (hm : szOk mem = true) (q r : Rg) (hq : fitR mem q = true) (hr : fitR mem r = true) (w : World) : Calls Try.prog 40 #[rgV q, rgV r] w fun e w' => e = .returned (.bool (ovR q r)) ∧ Below w.heap.size w w' := by
  rw [fitR_iff] at hq hr
  unfold szOk at hm
  simp at hm
  unfold ovR
  obtain ⟨p, b, s⟩ := q
  obtain ⟨p', b', s'⟩ := r
  simp only [rgV] at *
  have h1 : IntKind.i64.wrap (b + s) = b + s := IntWalk.i64_in _ (by omega)
  have h2 : IntKind.i64.wrap (b' + s') = b' + s' := IntWalk.i64_in _ (by omega)
  obtain ⟨x, hx⟩ : ∃ x, x = max b b' := ⟨_, rfl⟩
  obtain ⟨y, hy⟩ : ∃ y, y = min (b + s) (b' + s') := ⟨_, rfl⟩
  have g1 := fun W => max2 b b' x hx #[3, 3] 3 W
  have g2 := fun W => min2 (b + s) (b' + s') y hy #[3, 3] 3 W
  rw [← hx, ← hy]
  clear hx hy hm hq hr
  go_enter Try.func40, Try.ntmps40
  go_wp2_with fail
  go_ret
  exact ⟨rfl, ((Below.refl _ w).alloc (Nat.le_refl _) _).alloc (by simp) _⟩
set_option maxHeartbeats 2000000 in
theorem vclos_any (mem : Int) (hm : szOk mem = true) (q r : Rg) (hq : fitR mem q = true) (hr : fitR mem r = true) (B : Nat) (w : World) (hB : BoxN w B 45 #[.int .i64 r.p, .int .i64 r.b, .int .i64 r.s]) :
    Calls Try.prog 39 #[rgV q, .pointer (some ⟨B, 0, none⟩)] w fun e w' => e = .returned (.bool (ovR q r)) ∧ Below w.heap.size w w' := by
  have HO : Hid (∀ W : World, _) := fun W => overlap_any mem hm q r hq hr W
  have hl := hB.lt
  have c0 := hB.cell 0
  have c1 := hB.cell 1
  have c2 := hB.cell 2
  simp at c0 c1 c2
  clear hq hr hm hB
  obtain ⟨p, b, s⟩ := q
  obtain ⟨p', b', s'⟩ := r
  simp only [rgV] at *
  go_enter Try.func39, Try.ntmps39
  go_wp2_with fail
  (with_reducible refine (HO.out _).mono ?_); rintro e w1 ⟨rfl, hb⟩
  have hB1 := below_alloc_trans hb
  go_wp2_with fail
  go_ret
  exact ⟨rfl, hB1⟩
set_option maxHeartbeats 2000000 in
theorem oclos_any (q : Rg) (part : Int) (B : Nat) (w : World) (hB : BoxN w B 3 #[.int .i64 part]) :
    Calls Try.prog 49 #[rgV q, .pointer (some ⟨B, 0, none⟩)] w fun e w' => e = .returned (.bool (q.p == part)) ∧ Below w.heap.size w w' := by
  have hl := hB.lt
  have c0 := hB.cell 0
  simp at c0
  clear hB
  obtain ⟨p, b, s⟩ := q
  simp only [rgV] at *
  go_enter Try.func49, Try.ntmps49
  go_wp2_with fail
  go_ret
  exact ⟨rfl, (Below.refl _ w).alloc (Nat.le_refl _) _⟩
set_option maxHeartbeats 2000000 in
theorem aclos_any (q : Rg) (at' : Int) (B : Nat) (w : World) (hB : BoxN w B 3 #[.int .i64 at']) :
    Calls Try.prog 46 #[rgV q, .pointer (some ⟨B, 0, none⟩)] w fun e w' => e = .returned (.bool (inR at' q)) ∧ Below w.heap.size w w' := by
  have hl := hB.lt
  have c0 := hB.cell 0
  simp at c0
  clear hB
  obtain ⟨p, b, s⟩ := q
  simp only [rgV] at *
  unfold inR
  simp only
  by_cases h0 : b ≤ at'
  · have hd : decide (b ≤ at') = true := decide_eq_true h0
    rw [hd, Bool.true_and]
    go_enter Try.func46, Try.ntmps46
    go_wp2_with fail
    go_ret
    exact ⟨rfl, (Below.refl _ w).alloc (Nat.le_refl _) _⟩
  · have hd : decide (b ≤ at') = false := decide_eq_false h0
    rw [hd, Bool.false_and]
    go_enter Try.func46, Try.ntmps46
    go_wp2_with fail
    go_ret
    exact ⟨rfl, (Below.refl _ w).alloc (Nat.le_refl _) _⟩
set_option maxHeartbeats 2000000 in
theorem contains_any (q : Rg) (at' : Int) (w : World) :
    Calls Try.prog 34 #[rgV q, .int .i64 at'] w fun e w' => e = .returned (.bool (inR at' q)) ∧ Below w.heap.size w w' := by
  obtain ⟨p, b, s⟩ := q
  simp only [rgV] at *
  unfold inR
  simp only
  by_cases h0 : b ≤ at'
  · have hd : decide (b ≤ at') = true := decide_eq_true h0
    rw [hd, Bool.true_and]
    go_enter Try.func34, Try.ntmps34
    go_wp2_with fail
    go_ret
    exact ⟨rfl, (Below.refl _ w).alloc (Nat.le_refl _) _⟩
  · have hd : decide (b ≤ at') = false := decide_eq_false h0
    rw [hd, Bool.false_and]
    go_enter Try.func34, Try.ntmps34
    go_wp2_with fail
    go_ret
    exact ⟨rfl, (Below.refl _ w).alloc (Nat.le_refl _) _⟩
set_option maxHeartbeats 2000000 in
theorem sclos_any (q : Pt) (w : World) : Calls Try.prog 48 #[ptV q] w fun e w' => e = .returned (.bool (!szOk q.z)) ∧ Below w.heap.size w w' := by
  have HS : Hid (∀ W : World, _) := fun W => isSize_any q.z W
  generalize szOk q.z = r at *
  obtain ⟨s, a, b, z, A4, n4, c4, e, f, A7, n7, c7, A8, n8, c8, A9, n9, c9⟩ := q
  simp only [ptV, ptC] at *
  go_enter Try.func48, Try.ntmps48
  go_wp2_with fail
  (with_reducible refine (HS.out _).mono ?_); rintro e w1 ⟨rfl, rfl⟩
  go_wp2_with fail
  go_ret
  exact ⟨rfl, (Below.refl _ w).alloc (Nat.le_refl _) _⟩
end Me
end Go.Proofs.Ytdhofaiogbpjpaa
