/- The contracts of keys, isHeight and isKey. -/
import Derived.Test.YtaoipbndmfjmhaaBof
namespace Go.Proofs.Ytaoipbndmfjmhaa
open Go.RowKit Go.Joins

def okH (h : Int) : Bool := decide (0 ≤ h ∧ h ≤ 6)
def okK (q h : Int) : Bool := decide ((0 ≤ h ∧ h ≤ 6) ∧ 0 ≤ q ∧ q < 2 ^ h.toNat)

set_option maxRecDepth 100000 in
theorem keys_any (h : Nat) (hh : h ≤ 6) (w : World) :
    Calls Try.prog 53 #[.int .i64 h] w fun e w' => e = .returned (.int .i64 ((2 ^ h : Nat) : Int)) ∧ Below w.heap.size w w' := by
  have hB := Below.refl w.heap.size w
  have hw : wrap64 ((2 : Int) ^ h) = ((2 ^ h : Nat) : Int) := by
    have h1 : (2 : Int) ^ h = ((2 ^ h : Nat) : Int) := (Int.natCast_pow 2 h).symm
    have h2 : 2 ^ h ≤ 2 ^ 6 := Nat.pow_le_pow_right (by decide) hh
    rw [h1]
    generalize 2 ^ h = m at h2 ⊢
    unfold wrap64
    omega
  go_enter Try.func53, Try.ntmps53
  go_wp2_with fail
  go_ret
  exact ⟨by rw [← hw]; rfl, hB⟩

set_option maxRecDepth 100000 in
theorem isHeight_any (h : Int) (w : World) :
    Calls Try.prog 42 #[.int .i64 h] w fun e w' => e = .returned (.bool (okH h)) ∧ Below w.heap.size w w' := by
  have hB := Below.refl w.heap.size w
  by_cases h0 : 0 ≤ h
  · have d0 : decide (0 ≤ h) = true := by simpa using h0
    by_cases h6 : h ≤ 6
    · have d6 : decide (h ≤ 6) = true := by simpa using h6
      have e : Hid (okH h = true) := by simp [Hid, okH, h0, h6]
      clear h0 h6
      go_enter Try.func42, Try.ntmps42
      go_wp2_with fail
      go_ret
      exact ⟨by rw [e.out]; rfl, hB⟩
    · have d6 : decide (h ≤ 6) = false := by simpa using h6
      have e : Hid (okH h = false) := by simp [Hid, okH, h6]
      clear h0 h6
      go_enter Try.func42, Try.ntmps42
      go_wp2_with fail
      go_ret
      exact ⟨by rw [e.out]; rfl, hB⟩
  · have d0 : decide (0 ≤ h) = false := by simpa using h0
    have e : Hid (okH h = false) := by simp [Hid, okH, h0]
    clear h0
    go_enter Try.func42, Try.ntmps42
    go_wp2_with fail
    go_ret
    exact ⟨by rw [e.out]; rfl, hB⟩

set_option maxRecDepth 100000 in
set_option maxHeartbeats 1000000 in
theorem isKey_any (q h : Int) (w : World) :
    Calls Try.prog 44 #[.int .i64 q, .int .i64 h] w fun e w' => e = .returned (.bool (okK q h)) ∧ Below w.heap.size w w' := by
  have hB := Below.refl w.heap.size w
  have HH : Hid (∀ W : World, _) := fun W => isHeight_any h W
  by_cases h0 : 0 ≤ h ∧ h ≤ 6
  · obtain ⟨n, rfl⟩ : ∃ n : Nat, h = (n : Int) := ⟨h.toNat, by omega⟩
    have HK : Hid (∀ W : World, _) := fun W => keys_any n (by omega) W
    have e0 : okH (n : Int) = true := by simp [okH]; omega
    rw [e0] at HH
    by_cases hq0 : 0 ≤ q
    · have d0 : decide (0 ≤ q) = true := by simpa using hq0
      have e : Hid (okK q n = decide (q < ((2 ^ n : Nat) : Int))) := by
        unfold Hid okK
        rw [Int.toNat_natCast]
        by_cases hl : q < 2 ^ n
        · simp [hl, hq0]; omega
        · simp [hl]
      generalize ((2 ^ n : Nat) : Int) = m at *
      clear h0 hq0 e0
      go_enter Try.func44, Try.ntmps44
      go_wp2_with fail
      (with_reducible refine (HH.out _).mono ?_); rintro e w1 ⟨rfl, hb1⟩
      replace hB := hB.trans (hb1.mono hB.size)
      go_wp2_with fail
      (with_reducible refine (HK.out _).mono ?_); rintro e w2 ⟨rfl, hb2⟩
      replace hB := hB.trans (hb2.mono hB.size)
      go_wp2_with fail
      all_goals
        go_ret
        exact ⟨by rw [e.out]; rfl, hB⟩
    · have d0 : decide (0 ≤ q) = false := by simpa using hq0
      have e : Hid (okK q n = false) := by simp [Hid, okK, hq0]
      clear h0 hq0 e0 HK
      go_enter Try.func44, Try.ntmps44
      go_wp2_with fail
      (with_reducible refine (HH.out _).mono ?_); rintro e w1 ⟨rfl, hb1⟩
      replace hB := hB.trans (hb1.mono hB.size)
      go_wp2_with fail
      go_ret
      exact ⟨by rw [e.out]; rfl, hB⟩
  · have e0 : okH h = false := by simp only [okH, h0, decide_false]
    have e : Hid (okK q h = false) := by simp only [Hid, okK, h0, false_and, decide_false]
    rw [e0] at HH
    clear h0 e0
    go_enter Try.func44, Try.ntmps44
    go_wp2_with fail
    (with_reducible refine (HH.out _).mono ?_); rintro e w1 ⟨rfl, hb1⟩
    replace hB := hB.trans (hb1.mono hB.size)
    go_wp2_with fail
    go_ret
    exact ⟨by rw [e.out]; rfl, hB⟩
end Go.Proofs.Ytaoipbndmfjmhaa
