/- CrcBurst returns true. -/
import Derived.Test.YtjlnaihlndmlfabFlip
namespace Go.Proofs.Ytjlnaihlndmlfab
open Go.RowKit Go.Joins
namespace Burst

theorem or_bit (x : BitVec 32) : (x ||| 1#32).getLsbD 0 = true := by rw [BitVec.getLsbD_or]; simp

set_option maxRecDepth 100000 in
set_option maxHeartbeats 8000000 in
theorem walk (A : Option Addr) (cap : Nat) (l : List (BitVec 8)) (at' x : Int) (w : World) (hd : Data w A cap l) (ha0 : -9223372036854775808 ≤ at') (ha1 : at' ≤ 9223372036854775807) (hx0 : 0 ≤ x) (hx1 : x ≤ 4294967295) :
    Calls Try.prog 3 #[.slice A l.length cap, .int .i64 at', .int .u32 x] w fun e w' => e = .returned (.bool true) ∧ Below w.heap.size w w' := by
  obtain ⟨x, rfl⟩ := int_bv (n := 32) hx0 (by omega)
  have hcap := hd.cap
  have hlc := hd.len
  have HW : Hid (∀ W : World, _) := fun W => Aw.walk W
  obtain ⟨n, hn⟩ : ∃ n, l.length = n := ⟨_, rfl⟩
  rw [hn] at hlc ⊢
  by_cases hg : n > 300 ∨ at' < 0 ∨ at' ≥ 8 * (n + 4)
  · have hp : (decide ((300 : Int) < n) = true) ∨ (decide ((300 : Int) < n) = false ∧ decide (at' < 0) = true) ∨ ((n : Int) ≤ 300 ∧ decide ((300 : Int) < n) = false ∧ decide (at' < 0) = false ∧ decide (8 * ((n : Int) + 4) ≤ at') = true) := by
      simp only [decide_eq_true_eq, decide_eq_false_iff_not]; omega
    clear hd hn hg
    rcases hp with h1 | ⟨h1, h2⟩ | ⟨h0, h1, h2, h3⟩
    all_goals
      go_enter Try.func3, Try.ntmps3
      go_wp2_with fail
      (with_reducible refine (HW.out _).mono ?_); rintro e w1 ⟨rfl, hb⟩
      go_wp2_with fail
      go_ret
      exact ⟨rfl, hb⟩
  · obtain ⟨k, rfl⟩ : ∃ k : Nat, at' = k := ⟨at'.toNat, by omega⟩
    have hn3 : n ≤ 300 := by omega
    have hk : k < 8 * (n + 4) := by omega
    have hal : (app l).length = n + 4 := by rw [app_len, hn]
    have hckw : ck (app l) = (l, 0) := by
      unfold ck
      rw [hal, show n + 4 - 4 = n by omega, ← hn]
      have : (app l).take l.length = l := by rw [app, List.take_left]
      rw [this, if_pos ⟨by omega, rfl⟩]
    have HA := Lib.hid (append_n (cap := cap) n (n + 4) hn rfl (by omega) w hd.row)
    have HC : Hid (∀ (B : Option Addr) (c : Nat) (W : World), n + 4 ≤ c → isB B (app l) W → _) := fun B c W hc h => check_n (n + 4) hal l n hn 0 hckw (by omega) hc W h
    have HF : Hid (∀ (B : Option Addr) (c : Nat) (W : World), isB B (app l) W → _) := fun B c W h => flipped_any B c (app l) (n + 4) hal (by omega) k (by omega) x W h
    have HC2 : Hid (∀ (B : Option Addr) (c : Nat) (W : World), n + 4 ≤ c → isB B (fl (app l) k (x ||| 1#32) 32) W → _) := fun B c W hc h => check_n (n + 4) (by rw [fl_len, hal]) [] 0 rfl 40 (burst_ck l k (x ||| 1#32) (or_bit x) (by rw [hal]; exact hk)) (by omega) hc W h
    have HB : Hid (∀ (B : Option Addr) (c : Nat) (W : World), isB B l W → isB A l W → _) := fun B c W h1 h2 => bytes_n (ca := c) (cb := cap) n n hn hn true (decide_eq_true rfl) W h1 h2
    have KA : Hid (∀ v, Below w.heap.size w v → isB A l v) := fun v h => hd.row.keep h
    generalize fl (app l) k (x ||| 1#32) 32 = m at HF HC2
    clear hd hn hal hckw hg
    have hd1 : decide ((300 : Int) < n) = false := by simp; omega
    have hd2 : decide ((k : Int) < 0) = false := by simp
    have hd3 : decide (8 * ((n : Int) + 4) ≤ k) = false := by simp; omega
    go_enter Try.func3, Try.ntmps3
    go_wp2_with fail
    (with_reducible refine HA.out.mono ?_); rintro e w1 ⟨B1, c1, rfl, h1, hc1, hR⟩
    go_wp2_with fail
    (with_reducible refine (HC.out _ _ _ hc1 h1).mono ?_); rintro e w2 ⟨B2, c2, rfl, h2, hb⟩
    replace hR := hR.trans (hb.mono hR.size)
    replace h1 := h1.keep hb
    clear hb
    go_wp2_with fail
    (with_reducible refine (HF.out _ _ _ h1).mono ?_); rintro e w3 ⟨B3, c3, rfl, h3, hc3, hb⟩
    replace hR := hR.trans (hb.mono hR.size)
    replace h2 := h2.keep hb
    clear hb h1
    go_wp2_with fail
    (with_reducible refine (HC2.out _ _ _ hc3 h3).mono ?_); rintro e w4 ⟨B4, c4, rfl, -, hb⟩
    replace hR := hR.trans (hb.mono hR.size)
    replace h2 := h2.keep hb
    clear hb h3
    have ha := KA.out _ hR
    go_wp2_with fail
    (with_reducible refine (HB.out _ _ _ h2 ha).mono ?_); rintro e w5 ⟨rfl, rfl⟩
    clear h2 ha
    go_wp2_with fail
    (with_reducible refine (HW.out _).mono ?_); rintro e w6 ⟨rfl, hb⟩
    replace hR := hR.trans (hb.mono hR.size)
    clear hb
    go_wp2_with fail
    go_ret
    exact ⟨rfl, hR⟩
end Burst
end Go.Proofs.Ytjlnaihlndmlfab
