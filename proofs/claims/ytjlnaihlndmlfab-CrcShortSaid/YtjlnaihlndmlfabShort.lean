/- CrcShort returns true. -/
import Derived.Test.YtjlnaihlndmlfabTrailer
namespace Go.Proofs.Ytjlnaihlndmlfab
open Go.RowKit Go.Joins
namespace Short

set_option maxRecDepth 100000 in
/-- The law's four: the bytes of a register. -/
theorem four_any (o : BitVec 32) (w : World) :
    Calls Try.prog 17 #[U32 o] w fun e w' => ∃ B c, e = .returned (.slice B 4 c) ∧ isB B (trailer o) w' ∧ Below w.heap.size w w' := by
  have hl := o.isLt
  have t0 := sh0 o
  have t1 := sh8 o 8 256 (by decide)
  have t2 := sh8 o 16 65536 (by decide)
  have t3 := sh8 o 24 16777216 (by decide)
  rw [Int.emod_eq_of_lt (by omega) (by omega)] at t3
  have ht := Lib.hid (trailer_eq o)
  simp only [U32]
  generalize o.setWidth 8 = z0 at t0 ht
  generalize (o >>> 8).setWidth 8 = z1 at t1 ht
  generalize (o >>> 16).setWidth 8 = z2 at t2 ht
  generalize (o >>> 24).setWidth 8 = z3 at t3 ht
  generalize o.toNat = on at t0 t1 t2 t3 hl ⊢
  go_enter Try.func17, Try.ntmps17
  go_wp2_with fail
  go_ret
  exact ⟨_, _, rfl, by rw [ht.out]; exact Aw.isB_lit w [z0, z1, z2, z3] #[U8 z0, U8 z1, U8 z2, U8 z3] rfl, (Below.refl _ _).alloc (Nat.le_refl _) _⟩

theorem ck_short {l : List (BitVec 8)} (h : l.length < 4) : ck l = ([], 40) := by unfold ck; rw [if_neg (by omega)]

set_option maxRecDepth 100000 in
set_option maxHeartbeats 4000000 in
theorem walk (a b c x y n : Int) (w : World) (ha0 : 0 ≤ a) (ha1 : a ≤ 255) (hb0 : 0 ≤ b) (hb1 : b ≤ 255) (hc0 : 0 ≤ c) (hc1 : c ≤ 255) (hx0 : 0 ≤ x) (hx1 : x ≤ 4294967295) (hy0 : 0 ≤ y) (hy1 : y ≤ 4294967295) (hn0 : -9223372036854775808 ≤ n) (hn1 : n ≤ 9223372036854775807) :
    Calls Try.prog 7 #[.int .u8 a, .int .u8 b, .int .u8 c, .int .u32 x, .int .u32 y, .int .i64 n] w fun e w' => e = .returned (.bool true) ∧ Below w.heap.size w w' := by
  obtain ⟨x, rfl⟩ := int_bv (n := 32) hx0 (by omega)
  obtain ⟨y, rfl⟩ := int_bv (n := 32) hy0 (by omega)
  obtain ⟨a, rfl⟩ := int_bv (n := 8) ha0 (by omega)
  obtain ⟨b, rfl⟩ := int_bv (n := 8) hb0 (by omega)
  obtain ⟨c, rfl⟩ := int_bv (n := 8) hc0 (by omega)
  have HW : Hid (∀ W : World, _) := fun W => Aw.walk W
  have q1 : (((sum (trailer x)).toNat : Int) == ((sum (trailer y)).toNat : Int)) = decide (x = y) := by rw [beq_bv]; exact decide_eq_decide.2 (sum_trailer x y)
  have q2 := beq_bv x y
  have HX4 : Hid (∀ W : World, _) := fun W => four_any x W
  have HY4 : Hid (∀ W : World, _) := fun W => four_any y W
  have HSX : Hid (∀ (B : Option Addr) (c : Nat) (W : World), isB B (trailer x) W → _) := fun B c W h => sum_n (cap := c) 4 (trailer_len x) _ rfl (by decide) W h
  have HSY : Hid (∀ (B : Option Addr) (c : Nat) (W : World), isB B (trailer y) W → _) := fun B c W h => sum_n (cap := c) 4 (trailer_len y) _ rfl (by decide) W h
  have HC1 : Hid (∀ (m : Int) (W : World), (m < 0 ∨ 1048576 < m) → _) := fun m W h => combine_bad x y m h W
  generalize decide (x = y) = q at q1 q2
  generalize sum (trailer x) = sx at HSX q1
  generalize sum (trailer y) = sy at HSY q1
  have e1 := isB.nil none w
  obtain ⟨W1, hW1⟩ : ∃ W1, w.alloc (.cells #[U8 a] 5) = W1 := ⟨_, rfl⟩
  obtain ⟨W2, hW2⟩ : ∃ W2, W1.alloc (.cells #[U8 a, U8 b] 5) = W2 := ⟨_, rfl⟩
  obtain ⟨W3, hW3⟩ : ∃ W3, W2.alloc (.cells #[U8 a, U8 b, U8 c] 5) = W3 := ⟨_, rfl⟩
  have s1 : W1.heap.size = w.heap.size + 1 := by rw [← hW1]; simp
  have s2 : W2.heap.size = w.heap.size + 2 := by rw [← hW2]; simp [s1]
  have s3 : W3.heap.size = w.heap.size + 3 := by rw [← hW3]; simp [s2]
  have a1 : isB (some ⟨w.heap.size, 0, none⟩) [a] W1 := by rw [← hW1]; exact Aw.isB_lit w [a] #[U8 a] rfl
  have a2 : isB (some ⟨w.heap.size + 1, 0, none⟩) [a, b] W2 := by rw [← hW2, ← s1]; exact Aw.isB_lit W1 [a, b] #[U8 a, U8 b] rfl
  have a3 : isB (some ⟨w.heap.size + 2, 0, none⟩) [a, b, c] W3 := by rw [← hW3, ← s2]; exact Aw.isB_lit W2 [a, b, c] #[U8 a, U8 b, U8 c] rfl
  have k12 : Below W1.heap.size W1 W2 := by rw [← hW2]; exact (Below.refl _ _).alloc (Nat.le_refl _) _
  have k23 : Below W2.heap.size W2 W3 := by rw [← hW3]; exact (Below.refl _ _).alloc (Nat.le_refl _) _
  have b0 : Below w.heap.size w W3 := by
    refine Below.trans ?_ (Below.trans (k12.mono (by omega)) (k23.mono (by omega)))
    rw [← hW1]; exact (Below.refl _ _).alloc (Nat.le_refl _) _
  let CS : Array Value := #[.slice none 0 0, .slice (some ⟨w.heap.size, 0, none⟩) 1 1, .slice (some ⟨w.heap.size + 1, 0, none⟩) 2 2, .slice (some ⟨w.heap.size + 2, 0, none⟩) 3 3]
  have k34 : Below W3.heap.size W3 (W3.alloc (.cells CS 22)) := (Below.refl _ _).alloc (Nat.le_refl _) _
  have hL : Hid (∀ k, k < 4 → ∃ A l, (W3.alloc (.cells CS 22)).cell? ⟨w.heap.size + 1 + 1 + 1, k, none⟩ = some (.slice A k k) ∧ l.length = k ∧ isB A l (W3.alloc (.cells CS 22))) := fun k hk => by
    have hc := (BoxN.new W3 22 CS).cell k
    rw [s3] at hc
    match k, hk with
    | 0, _ => exact ⟨none, [], hc, rfl, isB.nil _ _⟩
    | 1, _ => exact ⟨_, [a], hc, rfl, ((a1.keep k12).keep k23).keep k34⟩
    | 2, _ => exact ⟨_, [a, b], hc, rfl, (a2.keep k23).keep k34⟩
    | 3, _ => exact ⟨_, [a, b, c], hc, rfl, a3.keep k34⟩
  have hz : (W3.alloc (.cells CS 22)).heap.size = w.heap.size + 4 := by simp [s3]
  replace b0 := b0.trans (k34.mono (by omega))
  have Heq : Hid (W3.alloc (.cells CS 22) = ((((w.alloc (.cells #[U8 a] 5)).alloc (.cells #[U8 a, U8 b] 5)).alloc (.cells #[U8 a, U8 b, U8 c] 5)).alloc (.cells CS 22))) := by unfold Hid; rw [hW1, hW2, hW3]
  clear hW1 hW2 hW3 s1 s2 s3 a1 a2 a3 k12 k23 k34 e1
  go_enter Try.func7, Try.ntmps7
  go_wp2_with fail
  rw [← Heq.out]
  clear Heq
  have hzg : w.heap.size + 1 + 1 + 1 < (W3.alloc (.cells CS 22)).heap.size := by omega
  generalize W3.alloc (.cells CS 22) = W0 at hL b0 hz hzg ⊢
  clear_value CS
  clear hz
  generalize w.heap.size + 1 + 1 + 1 = g at hL hzg ⊢
  go_loopw [29] (fun i wr => ∃ k : Nat, k ≤ 4 ∧ i = .int .i64 k ∧ Below W0.heap.size W0 wr) (fun i _ => 4 - (intOf i).toNat)
  case atStart => exact ⟨0, by omega, rfl, Below.refl _ _⟩
  case round =>
    obtain ⟨k, hk, rfl, hB⟩ := hrel
    by_cases hlt : k < 4
    · obtain ⟨A, l, hc, hll, hi⟩ := hL.out k hlt
      have hd : decide ((k : Int) < 4) = true := by simp; omega
      replace hc := (hB.cell (p := ⟨g, k, none⟩) hzg).trans hc
      have HC := Lib.hid (check_n (cap := k) k hll [] 0 rfl 40 (ck_short (by omega)) (by omega) (Nat.le_refl _) wr (hi.keep hB))
      clear hll hi
      go_wp2_with fail
      (with_reducible refine HC.out.mono ?_); rintro e w4 ⟨B4, c4, rfl, -, hb4⟩
      have hB4 := hB.trans (hb4.mono hB.size)
      clear hb4 HC hB hc
      go_wp2_with fail
      go_roundw
      case rel => exact ⟨k + 1, by omega, by go_num, hB4⟩
      case measure => simp [intOf]; omega
    · obtain rfl : k = 4 := by omega
      have hBw := b0.trans (hB.mono b0.size)
      clear hL hzg hB b0
      have hqq : (q != q) = false := by simp
      go_wp2_with fail
      (with_reducible refine (HX4.out _).mono ?_); rintro e w5 ⟨B5, c5, rfl, h5, hb⟩
      replace hBw := hBw.trans (hb.mono hBw.size)
      clear hb
      go_wp2_with fail
      (with_reducible refine (HSX.out _ _ _ h5).mono ?_); rintro e w6 ⟨rfl, hb⟩
      replace hBw := hBw.trans (hb.mono hBw.size)
      clear hb h5
      go_wp2_with fail
      (with_reducible refine (HY4.out _).mono ?_); rintro e w7 ⟨B7, c7, rfl, h7, hb⟩
      replace hBw := hBw.trans (hb.mono hBw.size)
      clear hb
      go_wp2_with fail
      (with_reducible refine (HSY.out _ _ _ h7).mono ?_); rintro e w8 ⟨rfl, hb⟩
      replace hBw := hBw.trans (hb.mono hBw.size)
      clear hb h7
      go_wp2_with fail
      all_goals
        (with_reducible refine (HC1.out _ _ ?_).mono ?_); omega
        rintro e w9 ⟨rfl, hb⟩
        have hBw9 := hBw.trans (hb.mono hBw.size)
        clear hb
        go_wp2_with fail
        all_goals
          (with_reducible refine (HC1.out _ _ ?_).mono ?_); omega
          rintro e w10 ⟨rfl, hb⟩
          have hBw10 := hBw9.trans (hb.mono hBw9.size)
          clear hb
          go_wp2_with fail
          (with_reducible refine (HW.out _).mono ?_); rintro e w11 ⟨rfl, hb⟩
          have hBw11 := hBw10.trans (hb.mono hBw10.size)
          clear hb
          go_wp2_with fail
          go_ret
          exact ⟨rfl, hBw11⟩
end Short
end Go.Proofs.Ytjlnaihlndmlfab
