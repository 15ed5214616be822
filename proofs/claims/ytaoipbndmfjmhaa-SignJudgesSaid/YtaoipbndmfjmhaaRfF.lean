/- The reference's Node and Valid. -/
import Derived.Test.YtaoipbndmfjmhaaRfE
import Derived.Test.YtaoipbndmfjmhaaKey
namespace Go.Proofs.Ytaoipbndmfjmhaa
open Go.RowKit Go.Joins

/-- A node by its level and index, as the reference has it. -/
def nd (seed : BitVec 64) : Nat → Nat → BitVec 64
  | 0, i => pubK seed (i : Int)
  | j + 1, i => pr (nd seed j (2 * i)) (nd seed j (2 * i + 1))
theorem nd_node (seed : BitVec 64) (h : Nat) : ∀ (j i : Nat), j ≤ h → i < 2 ^ (h - j) → node seed h j i = nd seed j i
  | 0, i, _, hi => by
    unfold node
    show (leaves seed h).getD i 0#64 = pubK seed i
    unfold leaves
    rw [List.getD_eq_getElem?_getD, wds_get _ _ _ (by simpa using hi)]; rfl
  | j + 1, i, hj, hi => by
    have h1 : 2 ^ (h - j) = 2 * 2 ^ (h - (j + 1)) := by rw [show h - j = (h - (j + 1)) + 1 by omega, Nat.pow_succ]; omega
    rw [node_up seed h j i (by omega) hi, nd_node seed h j (2 * i) (by omega) (by omega), nd_node seed h j (2 * i + 1) (by omega) (by omega)]
    rfl

set_option maxRecDepth 100000 in
set_option maxHeartbeats 1000000 in
theorem rnode_any (seed : BitVec 64) : ∀ (j i : Nat) (_ : (i + 1) * 2 ^ j ≤ 1024) (w : World),
    Calls Try.prog 21 #[U64 seed, .int .i64 j, .int .i64 i] w fun e w' => e = .returned (U64 (nd seed j i)) ∧ Below w.heap.size w w'
  | 0, i, _, w => by
    have HP : Hid (∀ W : World, _) := fun W => rpub_any seed (i : Int) W
    show Calls _ _ _ _ fun e w' => e = .returned (U64 (pubK seed (i : Int))) ∧ Below w.heap.size w w'
    generalize pubK seed (i : Int) = r at *
    go_enter Try.func21, Try.ntmps21
    go_wp2_with fail
    (with_reducible refine (HP.out _).mono ?_); rintro e w1 ⟨rfl, hb1⟩
    go_wp2_with fail
    go_ret
    exact ⟨rfl, hb1⟩
  | j + 1, i, hl, w => by
    have hp : 2 ^ (j + 1) = 2 * 2 ^ j := by rw [Nat.pow_succ]; omega
    have hm : (i + 1) * 2 ^ (j + 1) = (2 * i + 2) * 2 ^ j := by rw [hp]; grind
    have hq : 0 < 2 ^ j := Nat.pow_pos (by decide)
    rw [hm] at hl
    have h1 : (2 * i + 1) * 2 ^ j ≤ 1024 := Nat.le_trans (Nat.mul_le_mul_right _ (by omega)) hl
    have hi : i ≤ 1024 := by
      have : (2 * i + 2) * 1 ≤ (2 * i + 2) * 2 ^ j := Nat.mul_le_mul_left _ hq
      omega
    have hj : j ≤ 1024 := by
      have h2 : 1 * 2 ^ j ≤ (2 * i + 2) * 2 ^ j := Nat.mul_le_mul_right _ (by omega)
      have h3 : j < 2 ^ j := Nat.lt_two_pow_self
      omega
    have HA : Hid (∀ W : World, _) := fun W => rnode_any seed j (2 * i) h1 W
    have HB : Hid (∀ W : World, _) := fun W => rnode_any seed j (2 * i + 1) hl W
    have HR : Hid (∀ W : World, _) := fun W => rpair_n (nd seed j (2 * i)) (nd seed j (2 * i + 1)) (pr (nd seed j (2 * i)) (nd seed j (2 * i + 1))) rfl W
    show Calls _ _ _ _ fun e w' => e = .returned (U64 (pr (nd seed j (2 * i)) (nd seed j (2 * i + 1)))) ∧ Below w.heap.size w w'
    generalize pr (nd seed j (2 * i)) (nd seed j (2 * i + 1)) = r at *
    generalize nd seed j (2 * i) = x at *
    generalize nd seed j (2 * i + 1) = y at *
    have e1 : (((j + 1 : Nat) : Int) == 0) = false := by simp; omega
    have e2 : ((j + 1 : Nat) : Int) - 1 = (j : Int) := by omega
    have e3 : (2 : Int) * (i : Int) = ((2 * i : Nat) : Int) := by omega
    have e4 : ((2 * i : Nat) : Int) + 1 = ((2 * i + 1 : Nat) : Int) := by omega
    obtain ⟨m, hm⟩ : ∃ m, j + 1 = m := ⟨_, rfl⟩
    obtain ⟨a, ha⟩ : ∃ a, 2 * i = a := ⟨_, rfl⟩
    obtain ⟨b, hb⟩ : ∃ b, 2 * i + 1 = b := ⟨_, rfl⟩
    have hm2 : m ≤ 1025 := by omega
    have ha2 : a ≤ 2048 := by omega
    have hb2 : b ≤ 2049 := by omega
    rw [hb] at HB
    rw [ha] at HA
    rw [hm] at e1 e2 ⊢
    rw [hb] at e4
    rw [ha] at e3 e4
    clear hm ha hb hl h1 hq hp
    go_enter Try.func21, Try.ntmps21
    go_wp2_with fail
    (with_reducible refine (HA.out _).mono ?_); rintro e w1 ⟨rfl, hb1⟩
    go_wp2_with fail
    (with_reducible refine (HB.out _).mono ?_); rintro e w2 ⟨rfl, hb3⟩
    replace hb1 := hb1.trans (hb3.mono hb1.size)
    clear hb3
    go_wp2_with fail
    (with_reducible refine (HR.out _).mono ?_); rintro e w3 ⟨rfl, hb3⟩
    replace hb1 := hb1.trans (hb3.mono hb1.size)
    clear hb3
    go_wp2_with fail
    go_ret
    exact ⟨rfl, hb1⟩

set_option maxRecDepth 100000 in
set_option maxHeartbeats 1000000 in
theorem rvalid_any (h q : Int) (w : World) :
    Calls Try.prog 19 #[.int .i64 h, .int .i64 q] w fun e w' => e = .returned (.bool (okK q h)) ∧ w' = w := by
  by_cases h0 : h < 0
  · have d0 : decide (h < 0) = true := decide_eq_true h0
    have e : Hid (okK q h = false) := by unfold Hid okK; rw [decide_eq_false_iff_not]; omega
    clear h0
    go_enter Try.func19, Try.ntmps19
    go_wp2_with fail
    go_ret
    exact ⟨by rw [e.out]; rfl, rfl⟩
  by_cases h6 : 6 < h
  · have d0 : decide (h < 0) = false := decide_eq_false h0
    have d6 : decide (6 < h) = true := decide_eq_true h6
    have e : Hid (okK q h = false) := by unfold Hid okK; rw [decide_eq_false_iff_not]; omega
    clear h0 h6
    go_enter Try.func19, Try.ntmps19
    go_wp2_with fail
    go_ret
    exact ⟨by rw [e.out]; rfl, rfl⟩
  obtain ⟨n, rfl⟩ := Int.eq_ofNat_of_zero_le (Int.not_lt.1 h0)
  have hn : n ≤ 6 := by omega
  have d0 : decide ((n : Int) < 0) = false := decide_eq_false h0
  have d6 : decide (6 < (n : Int)) = false := decide_eq_false h6
  clear h0 h6
  go_enter Try.func19, Try.ntmps19
  go_wp2_with fail
  go_loopw [5, 6] (fun p i wr => ∃ k m : Nat, k ≤ n ∧ m = 2 ^ k ∧ i = .int .i64 k ∧ p = .int .i64 m ∧ wr = w)
    (fun _ i _ => (n - intOf i).toNat)
  case atStart => exact ⟨0, 1, by omega, rfl, rfl, rfl, rfl⟩
  case round =>
    obtain ⟨k, m, hk, hm, rfl, rfl, rfl⟩ := hrel
    have hm6 : m ≤ 64 := by rw [hm]; exact Nat.le_trans (Nat.pow_le_pow_right (by decide) (by omega)) (show 2 ^ 6 ≤ 64 by decide)
    have hs : 2 * m = 2 ^ (k + 1) := by rw [hm, Nat.pow_succ]; omega
    have HS := Lib.hid (And.intro hm hs)
    clear hm hs
    by_cases hlt : k < n
    · have hd : decide (k < n) = true := decide_eq_true hlt
      go_wp2_with fail
      go_roundw
      case rel => exact ⟨k + 1, 2 * m, by omega, HS.out.2, by go_num, by go_num, by simp⟩
      case measure => simp [intOf]; omega
    · have hd : decide (k < n) = false := decide_eq_false hlt
      obtain rfl : k = n := by omega
      have hok : Hid (okK q (k : Int) = (decide (0 ≤ q) && decide (q < (m : Int)))) := by
        unfold Hid okK
        rw [← Bool.decide_and]
        congr 1
        rw [HS.out.1, Int.toNat_natCast, Int.natCast_pow]
        simp
        intros
        omega
      by_cases hq0 : 0 ≤ q
      · have dq : decide (0 ≤ q) = true := decide_eq_true hq0
        rw [dq, Bool.true_and] at hok
        clear hq0
        go_wp2_with fail
        go_ret
        exact ⟨by rw [hok.out]; rfl, rfl⟩
      · have dq : decide (0 ≤ q) = false := decide_eq_false hq0
        rw [dq, Bool.false_and] at hok
        clear hq0
        go_wp2_with fail
        go_ret
        exact ⟨by rw [hok.out]; rfl, rfl⟩
end Go.Proofs.Ytaoipbndmfjmhaa
