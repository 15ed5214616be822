/- The reference's Step and Advance. -/
import Derived.Test.YtaoipbndmfjmhaaStep
import Derived.Test.YtaoipbndmfjmhaaRfB
namespace Go.Proofs.Ytaoipbndmfjmhaa
open Go.RowKit Go.Joins

set_option maxRecDepth 100000 in
set_option maxHeartbeats 1000000 in
theorem rstep_any (i k : Int) (x : BitVec 64) (w : World) :
    Calls Try.prog 14 #[.int .i64 i, .int .i64 k, U64 x] w fun e w' => e = .returned (U64 (stp i k x)) ∧ Below w.heap.size w w' := by
  have HB : Hid (∀ W : World, _) := fun W => rbytes_any x W
  have HO : Hid (∀ (G : Option Addr) (c : Nat) (W : World), isB G ([lo8 i, lo8 k] ++ bytes8 x) W → Calls Try.prog 35 #[.slice G 10 c] W fun e w' => e = .returned (U64 (stp i k x)) ∧ w' = W) := fun G c W h =>
    rof_n (cap := c) 10 (by show (lo8 i :: lo8 k :: bytes8 x).length = 10; rw [List.length_cons, List.length_cons, bytes8_len]) _ rfl (by decide) W h
  have IB : Hid (∀ (G : Option Addr) (g k base : Nat) (l : List (BitVec 8)) (W : World), W.ownsRow base 5 1 (.slice G k g) k (cellsB l) → isB G l W) := fun _ _ _ _ _ _ h => isB_of_own h
  have hbl := Lib.hid (bytes8_len x)
  generalize stp i k x = r at *
  generalize bytes8 x = lb at *
  have ei := wrap8 i
  have ek := wrap8 k
  generalize lo8 i = ui at *
  generalize lo8 k = uk at *
  go_enter Try.func14, Try.ntmps14
  go_wp2_with fail
  have h1 : (w.alloc (.cells #[U8 ui, U8 uk] 5)).ownsRow w.heap.size 5 1 (.slice (some ⟨w.heap.size, 0, none⟩) 2 2) 2 (cellsB [ui, uk]) :=
    World.ownsRow_lit w #[U8 ui, U8 uk] 2 (Nat.le_refl _) (by decide) rfl
  have hb1 : Below w.heap.size w (w.alloc (.cells #[U8 ui, U8 uk] 5)) := (Below.refl _ w).alloc (Nat.le_refl _) _
  generalize w.alloc (.cells #[U8 ui, U8 uk] 5) = w1 at h1 hb1 ⊢
  (with_reducible refine (HB.out _).mono ?_); rintro e w2 ⟨G2, c2, rfl, h2, hb2⟩
  replace h1 := own_below h1 hb2
  have hW := hb1.trans (hb2.mono hb1.size)
  have hi2 := IB.out _ _ _ _ _ _ h2
  clear hb1 hb2 h2
  go_wp2_with (at_builtin; refine app_arm _ rfl _ _ rfl w.heap.size (some ⟨w.heap.size, 0, none⟩) 2 2 [ui, uk] rfl h1 G2 8 c2 lb rfl hbl.out hi2 10 rfl (by omega) hW.size ?_; intro G3 c3 w3 h3 hb3; have hB3 := hW.trans hb3; have hi3 := IB.out _ _ _ _ _ _ h3)
  clear h1 h3 hi2 hW hb3
  (with_reducible refine (HO.out _ _ _ hi3).mono ?_); rintro e w4 ⟨rfl, rfl⟩
  go_wp2_with fail
  go_ret
  exact ⟨rfl, hB3⟩

set_option maxRecDepth 100000 in
set_option maxHeartbeats 1000000 in
theorem radv_any (i a b : Nat) (hb : b ≤ 1000) (x : BitVec 64) (w : World) :
    Calls Try.prog 51 #[.int .i64 i, .int .i64 a, .int .i64 b, U64 x] w fun e w' => e = .returned (U64 (advTo i a b x)) ∧ Below w.heap.size w w' := by
  have HS : Hid (∀ (k : Int) (y : BitVec 64) (W : World), _) := fun k y W => rstep_any i k y W
  have hB0 := Below.refl w.heap.size w
  go_enter Try.func51, Try.ntmps51
  go_wp2_with fail
  go_loopw [3, 9] (fun y k wr => ∃ n m : Nat, (n = 0 ∨ a + n ≤ b) ∧ m = a + n ∧ k = .int .i64 m ∧ y = U64 (advs i a x n) ∧ Below w.heap.size w wr)
    (fun _ k _ => (b - intOf k).toNat)
  case atStart => exact ⟨0, a, .inl rfl, rfl, rfl, rfl, hB0⟩
  case round =>
    clear hB0
    obtain ⟨n, m, hn, hm, rfl, rfl, hB⟩ := hrel
    have hs : Hid (advs i a x (n + 1) = stp i m (advs i a x n)) := by unfold Hid; rw [hm]; rfl
    have HM := Lib.hid (And.intro hm hn)
    clear hm hn
    by_cases hlt : m < b
    · have hd : decide (m < b) = true := decide_eq_true hlt
      generalize advs i a x n = y at *
      go_wp2_with fail
      (with_reducible refine (HS.out _ _ _).mono ?_); rintro e w1 ⟨rfl, hb1⟩
      replace hB := hB.trans (hb1.mono hB.size)
      rw [← hs.out]
      obtain ⟨y1, hy1⟩ : ∃ y1, advs i a x (n + 1) = y1 := ⟨_, rfl⟩
      rw [hy1]
      replace hy1 := Lib.hid hy1
      clear hb1
      go_wp2_with fail
      go_roundw
      case rel => exact ⟨n + 1, m + 1, by have := HM.out.1; omega, by have := HM.out.1; omega, by go_num, by rw [hy1.out], hB⟩
      case measure => simp [intOf]; omega
    · have hd : decide (m < b) = false := decide_eq_false hlt
      have he : Hid (advs i a x n = advTo i a b x) := by
        unfold Hid advTo
        rw [show n = b - a by have := HM.out; omega]
      generalize advs i a x n = y at *
      go_wp2_with fail
      go_ret
      exact ⟨by rw [he.out]; rfl, hB⟩
end Go.Proofs.Ytaoipbndmfjmhaa
