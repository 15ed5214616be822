/- Merged texts: Gcd, Make, Ops, Cmp, Num, Basic, Cls, Buck, Iter, Seq. -/
import Derived.Test.YtbncfknjgldcbaaGreatProg
import Derived.WalkKit
import Derived.WalkSpells
import Derived.WalkLawsBesides
import Derived.LoopTactic
import Derived.RegionTactic
import Derived.Deep.QuietTactic
import Derived.BigQuiet
import Derived.Handy
import Derived.Lib.Hide
import Derived.WalkSmall
import Derived.Carry
import Derived.Sort.Grow
import Derived.Lib.SmallJoins
import Derived.Below
import Derived.Outline
import Derived.Deep.RegionHeld3
import Derived.RangeFuncNested
import Derived.RangeFuncBound
import Derived.RangeFuncCalls
import Derived.RangeFuncLeaves
import Derived.RangeFuncBox
import Derived.Shelf.Abstract
import Derived.Shelf.RegionOpen
import Derived.OwnWalkIn
import Derived.TacticsInMore
import Derived.LoopNIn
import Derived.LoopIn
import Derived.Maps.AppendAt
import Derived.Deep.AppendLies
/- Contracts of the two instances of rat.gcd, of rat.magnitude and of the reference's gcd and size. -/
namespace Go.Proofs.YtbncfknjgldcbaaGreat
open Go.RowKit

theorem bcell {W w1 : World} (hb : Below W.heap.size W w1) : (∀ b o, b < W.heap.size → w1.cell? ⟨b, o, none⟩ = W.cell? ⟨b, o, none⟩) ∧ (∀ b o, b < W.heap.size → w1.frozen? ⟨b, o, none⟩ = W.frozen? ⟨b, o, none⟩) :=
  ⟨fun b o h => hb.cell (p := ⟨b, o, none⟩) h, fun b o h => hb.frozen (p := ⟨b, o, none⟩) h⟩
theorem bnext {W0 X Y : World} (hB : Below W0.heap.size W0 X) (hb : Below X.heap.size X Y) : Below W0.heap.size W0 Y := hB.trans (hb.mono hB.size)
theorem drewN_add (w : World) (a b : Nat) : (w.drewN a).drewN b = w.drewN (a + b) := by simp [World.drewN, Nat.add_assoc]
theorem ret_bool {a b : Bool} (h : a = b) : Ending.returned (.bool a) = .returned (.bool b) := by rw [h]
theorem ret_int {k : IntKind} {a b : Int} (h : a = b) : Ending.returned (.int k a) = .returned (.int k b) := by rw [h]
theorem gcd_step (a b : Int) (hb : 0 < b) (ha : 0 ≤ a) : Int.gcd b (a % b) = Int.gcd a b := by
  obtain ⟨m, rfl⟩ := Int.eq_ofNat_of_zero_le ha
  obtain ⟨n, rfl⟩ := Int.eq_ofNat_of_zero_le (Int.le_of_lt hb)
  show Nat.gcd n (m % n) = Nat.gcd m n
  rw [Nat.gcd_comm m n, Nat.gcd_rec n m, Nat.gcd_comm]

set_option maxHeartbeats 400000 in
theorem gcdU (a b : Int) (w : World) (a0 : 0 ≤ a) (b0 : 0 ≤ b) (a1 : a ≤ 18446744073709551615) (b1 : b ≤ 18446744073709551615) :
    Calls Tryz.prog 91 #[.int .u64 a, .int .u64 b] w fun e w' => e = .returned (.int .u64 (Int.gcd a b : Nat)) ∧ ∃ k, w' = w.drewN k := by
  go_enter Tryz.func91, Tryz.ntmps91
  go_wp2
  go_loopw [0, 1] (fun s t wr => ∃ x y : Int, 0 ≤ x ∧ 0 ≤ y ∧ x ≤ 18446744073709551615 ∧ y ≤ 18446744073709551615 ∧ s = .int .u64 x ∧ t = .int .u64 y ∧ Hid (Int.gcd x y = Int.gcd a b) ∧ ∃ k, wr = w.drewN k) (fun _ t _ => (intOf t).toNat)
  case atStart => exact ⟨a, b, a0, b0, a1, b1, rfl, rfl, rfl, 0, rfl⟩
  case round =>
    obtain ⟨x, y, x0, y0, x1, y1, rfl, rfl, hg, j, rfl⟩ := hrel
    by_cases hy : y = 0
    · subst hy
      go_wp2
      go_ret
      have := hg.out
      exact ⟨by rw [← this, Int.gcd_zero_right, Int.natAbs_of_nonneg x0]; rfl, j, rfl⟩
    · have hyp : 0 < y := by omega
      have hyb : (y == 0) = false := by simpa using hy
      have hyn : (y != 0) = true := by simpa using hy
      go_wp2
      have hs := gcd_step x y hyp x0
      have Hs : Hid (Int.gcd y (x % y) = Int.gcd a b) := hs.trans hg.out
      have m0 : 0 ≤ x % y := Int.emod_nonneg _ hy
      have m1 : x % y < y := Int.emod_lt_of_pos _ hyp
      clear hs
      go_quiet (fail)
      rename_i nq
      go_wp2
      go_roundw
      case rel => exact ⟨y, x % y, y0, m0, y1, by omega, rfl, by first | rfl | simp, Hs, j + nq, drewN_add _ _ _⟩
      case measure => simp [intOf]; omega

set_option maxHeartbeats 400000 in
theorem gcdI (a b : Int) (w : World) (a0 : 0 ≤ a) (b0 : 0 ≤ b) (a1 : a ≤ 9223372036854775807) (b1 : b ≤ 9223372036854775807) :
    Calls Tryz.prog 116 #[.int .i64 a, .int .i64 b] w fun e w' => e = .returned (.int .i64 (Int.gcd a b : Nat)) ∧ ∃ k, w' = w.drewN k := by
  go_enter Tryz.func116, Tryz.ntmps116
  go_wp2
  go_loopw [0, 1] (fun s t wr => ∃ x y : Int, 0 ≤ x ∧ 0 ≤ y ∧ x ≤ 9223372036854775807 ∧ y ≤ 9223372036854775807 ∧ s = .int .i64 x ∧ t = .int .i64 y ∧ Hid (Int.gcd x y = Int.gcd a b) ∧ ∃ k, wr = w.drewN k) (fun _ t _ => (intOf t).toNat)
  case atStart => exact ⟨a, b, a0, b0, a1, b1, rfl, rfl, rfl, 0, rfl⟩
  case round =>
    obtain ⟨x, y, x0, y0, x1, y1, rfl, rfl, hg, j, rfl⟩ := hrel
    by_cases hy : y = 0
    · subst hy
      go_wp2
      go_ret
      have := hg.out
      exact ⟨by rw [← this, Int.gcd_zero_right, Int.natAbs_of_nonneg x0]; rfl, j, rfl⟩
    · have hyp : 0 < y := by omega
      have hyb : (y == 0) = false := by simpa using hy
      have hyn : (y != 0) = true := by simpa using hy
      go_wp2
      have hs := gcd_step x y hyp x0
      have Hs : Hid (Int.gcd y (x % y) = Int.gcd a b) := hs.trans hg.out
      have m0 : 0 ≤ x % y := Int.emod_nonneg _ hy
      have m1 : x % y < y := Int.emod_lt_of_pos _ hyp
      clear hs
      go_quiet (fail)
      rename_i nq
      go_wp2
      go_roundw
      case rel => exact ⟨y, x % y, y0, m0, y1, by omega, rfl, by first | rfl | simp, Hs, j + nq, drewN_add _ _ _⟩
      case measure => simp [intOf]; omega

/-- The absolute value as an unsigned number, of every int. -/
theorem mag (n : Int) (w : World) (n0 : -9223372036854775808 ≤ n) (n1 : n ≤ 9223372036854775807) :
    Calls Tryz.prog 90 #[.int .i64 n] w fun e w' => e = .returned (.int .u64 (n.natAbs : Nat)) ∧ w = w' := by
  by_cases h : n < 0
  · go_enter Tryz.func90, Tryz.ntmps90
    go_wp2
    go_ret
    exact ⟨by rw [show IntKind.u64.wrap (-IntKind.u64.wrap n) = (n.natAbs : Nat) by go_arith]; rfl, rfl⟩
  · go_enter Tryz.func90, Tryz.ntmps90
    go_wp2
    go_ret
    exact ⟨by rw [show (n.natAbs : Int) = n by omega]; rfl, rfl⟩

/-- When a number is valid. -/
def vldB (n d : Int) : Bool := decide (1 ≤ d ∧ d ≤ 1073741824 ∧ -1073741824 ≤ n ∧ n ≤ 1073741824 ∧ Int.gcd n d = 1)
theorem vld_no {n d : Int} (h : ¬ (1 ≤ d ∧ d ≤ 1073741824 ∧ -1073741824 ≤ n ∧ n ≤ 1073741824)) : vldB n d = false := by
  unfold vldB; rw [decide_eq_false_iff_not]; exact fun ⟨a, b, c, e, _⟩ => h ⟨a, b, c, e⟩
theorem vld_bd {n d : Int} (h : vldB n d = true) : 1 ≤ d ∧ d ≤ 1073741824 ∧ -1073741824 ≤ n ∧ n ≤ 1073741824 ∧ Int.gcd n d = 1 := of_decide_eq_true h
theorem vld_in {n d : Int} (a : 1 ≤ d) (b : d ≤ 1073741824) (c : -1073741824 ≤ n) (e : n ≤ 1073741824) : vldB n d = decide (Int.gcd n d = 1) := by
  unfold vldB; rw [Bool.eq_iff_iff]; simp [a, b, c, e]

set_option maxHeartbeats 400000 in
theorem valid_any (n d : Int) (w : World) (n0 : -9223372036854775808 ≤ n) (n1 : n ≤ 9223372036854775807) (d0 : -9223372036854775808 ≤ d) (d1 : d ≤ 9223372036854775807) :
    Calls Tryz.prog 81 #[.agg #[.int .i64 n, .int .i64 d]] w fun e w' => e = .returned (.bool (vldB n d)) ∧ Below w.heap.size w w' := by
  by_cases h1 : d < 1
  · rw [vld_no (by omega)]
    go_enter Tryz.func81, Tryz.ntmps81
    go_wp2
    go_ret
    exact ⟨rfl, by go_grown⟩
  by_cases h2 : d > 1073741824
  · rw [vld_no (by omega)]
    go_enter Tryz.func81, Tryz.ntmps81
    go_wp2
    go_ret
    exact ⟨rfl, by go_grown⟩
  by_cases h3 : n < -1073741824
  · rw [vld_no (by omega)]
    go_enter Tryz.func81, Tryz.ntmps81
    go_wp2
    go_ret
    exact ⟨rfl, by go_grown⟩
  by_cases h4 : n > 1073741824
  · rw [vld_no (by omega)]
    go_enter Tryz.func81, Tryz.ntmps81
    go_wp2
    go_ret
    exact ⟨rfl, by go_grown⟩
  rw [vld_in (by omega) (by omega) (by omega) (by omega)]
  go_enter Tryz.func81, Tryz.ntmps81
  go_wp2_with fail
  all_goals
    refine (gcdI _ _ _ (by omega) (by omega) (by omega) (by omega)).mono ?_
    rintro e w1 ⟨rfl, j, rfl⟩
    go_wp2
    go_ret
    refine ⟨?_, below_drewN ((Below.refl _ _).alloc (Nat.le_refl _) _) _⟩
    exact ret_bool (by rw [Bool.eq_iff_iff]; simp; omega)
end Go.Proofs.YtbncfknjgldcbaaGreat
/- The contract of rat.Make: at every two ints it returns the number in lowest terms, or the error of the chapter. -/
namespace Go.Proofs.YtbncfknjgldcbaaGreat
open Go.RowKit

/-- What Make returns: numerator, denominator, error. -/
def mkN (n d : Int) : Int × Int × Int :=
  if d = 0 then (0, 0, 2)
  else
    let g : Int := Int.gcd n d
    let a : Int := n.natAbs / g
    let b : Int := d.natAbs / g
    if a > 1073741824 ∨ b > 1073741824 then (0, 0, 3)
    else if decide (n < 0) != decide (d < 0) then (-a, b, 0) else (a, b, 0)

def ratV (x : Int × Int × Int) : Value := .tuple #[.agg #[.int .i64 x.1, .int .i64 x.2.1], .int .i64 x.2.2]

theorem mk_zero (n : Int) : mkN n 0 = (0, 0, 2) := by simp [mkN]
theorem mk_long {n d a b : Int} (hd : d ≠ 0) (ha : a = n.natAbs / (Int.gcd n d : Int)) (hb : b = d.natAbs / (Int.gcd n d : Int)) (h : a > 1073741824 ∨ b > 1073741824) : mkN n d = (0, 0, 3) := by
  subst ha hb; simp only [mkN]; rw [if_neg hd, if_pos h]
theorem mk_fits {n d a b : Int} (hd : d ≠ 0) (ha : a = n.natAbs / (Int.gcd n d : Int)) (hb : b = d.natAbs / (Int.gcd n d : Int)) (h1 : ¬ a > 1073741824) (h2 : ¬ b > 1073741824) :
    mkN n d = (if decide (n < 0) != decide (d < 0) then -a else a, b, 0) := by
  subst ha hb; simp only [mkN]; rw [if_neg hd, if_neg (by omega)]; split <;> rfl

set_option maxHeartbeats 1000000 in
theorem make_any (n d : Int) (w : World) (n0 : -9223372036854775808 ≤ n) (n1 : n ≤ 9223372036854775807) (d0 : -9223372036854775808 ≤ d) (d1 : d ≤ 9223372036854775807) :
    Calls Tryz.prog 40 #[.int .i64 n, .int .i64 d] w fun e w' => e = .returned (ratV (mkN n d)) ∧ Below w.heap.size w w' := by
  by_cases hd : d = 0
  · subst hd
    rw [mk_zero]
    go_enter Tryz.func40, Tryz.ntmps40
    go_wp2
    go_returns
    exact ⟨rfl, by go_grown⟩
  have hz : (d == 0) = false := by simpa using hd
  obtain ⟨a, ha⟩ : ∃ a : Int, a = n.natAbs := ⟨_, rfl⟩
  obtain ⟨b, hb⟩ : ∃ b : Int, b = d.natAbs := ⟨_, rfl⟩
  obtain ⟨g, hg⟩ : ∃ g : Int, g = (Int.gcd n d : Nat) := ⟨_, rfl⟩
  have g0 : 0 < g := by
    have : 0 < Int.gcd n d := Int.gcd_pos_of_ne_zero_right n hd
    omega
  have hga : Int.gcd a b = Int.gcd n d := by subst ha hb; simp [Int.gcd]
  have a0 : 0 ≤ a := by omega
  have b0 : 0 ≤ b := by omega
  have a1 : a ≤ 9223372036854775808 := by omega
  have b1 : b ≤ 9223372036854775808 := by omega
  have qa0 : 0 ≤ a / g := Int.ediv_nonneg a0 (by omega)
  have qb0 : 0 ≤ b / g := Int.ediv_nonneg b0 (by omega)
  have g1 : g ≤ 18446744073709551615 := by
    have h1 : Int.gcd n d ∣ d.natAbs := Int.gcd_dvd_natAbs_right n d
    have h2 := Nat.le_of_dvd (by omega) h1
    omega
  have gz : (g == 0) = false := by simp; omega
  have eqa : a / g = n.natAbs / (Int.gcd n d : Int) := by rw [ha, hg]
  have eqb : b / g = d.natAbs / (Int.gcd n d : Int) := by rw [hb, hg]
  have Ha := Lib.hid ha
  have Hb := Lib.hid hb
  have Hg := Lib.hid hg
  have Hga := Lib.hid hga
  clear ha hb hg hga
  by_cases h1 : a / g > 1073741824
  · rw [mk_long hd eqa eqb (Or.inl h1)]
    clear eqa eqb
    go_enter Tryz.func40, Tryz.ntmps40
    go_wp2_with fail
    refine (mag _ _ n0 n1).mono ?_; rintro e w1 ⟨rfl, rfl⟩; rw [← Ha.out]
    go_wp2_with fail
    refine (mag _ _ d0 d1).mono ?_; rintro e w1 ⟨rfl, rfl⟩; rw [← Hb.out]
    go_wp2_with fail
    refine (gcdU _ _ _ a0 b0 (by omega) (by omega)).mono ?_; rintro e w1 ⟨rfl, j, rfl⟩; rw [Hga.out, ← Hg.out]
    go_wp2_with fail
    go_quiet (fail)
    go_wp2
    go_returns
    refine ⟨by simp only [ratV]; try rfl, ?_⟩; (repeat' (first | (with_reducible exact Below.refl _ _) | (with_reducible refine below_drewN ?_ _) | (with_reducible refine Below.drew ?_) | (with_reducible refine Below.setCell ?_ ?_ _) | (with_reducible refine Below.alloc ?_ ?_ _) | go_size))
  by_cases h2 : b / g > 1073741824
  · rw [mk_long hd eqa eqb (Or.inr h2)]
    clear eqa eqb
    go_enter Tryz.func40, Tryz.ntmps40
    go_wp2_with fail
    refine (mag _ _ n0 n1).mono ?_; rintro e w1 ⟨rfl, rfl⟩; rw [← Ha.out]
    go_wp2_with fail
    refine (mag _ _ d0 d1).mono ?_; rintro e w1 ⟨rfl, rfl⟩; rw [← Hb.out]
    go_wp2_with fail
    refine (gcdU _ _ _ a0 b0 (by omega) (by omega)).mono ?_; rintro e w1 ⟨rfl, j, rfl⟩; rw [Hga.out, ← Hg.out]
    go_wp2_with fail
    go_quiet (fail)
    go_wp2
    go_returns
    refine ⟨by simp only [ratV]; try rfl, ?_⟩; (repeat' (first | (with_reducible exact Below.refl _ _) | (with_reducible refine below_drewN ?_ _) | (with_reducible refine Below.drew ?_) | (with_reducible refine Below.setCell ?_ ?_ _) | (with_reducible refine Below.alloc ?_ ?_ _) | go_size))
  rw [mk_fits hd eqa eqb h1 h2]
  clear eqa eqb
  rcases Bool.eq_false_or_eq_true (decide (n < 0)) with hn | hn <;> rcases Bool.eq_false_or_eq_true (decide (d < 0)) with hm | hm
  all_goals
    simp only [hn, hm, bne_self_eq_false, if_true, if_false, Bool.false_eq_true, Bool.true_bne, Bool.false_bne, Bool.not_false]
    have hs : (!decide (n < 0) == decide (d < 0)) = (!(decide (n < 0) == decide (d < 0))) := rfl
    rw [hn, hm] at hs
    go_enter Tryz.func40, Tryz.ntmps40
    go_wp2_with fail
    refine (mag _ _ n0 n1).mono ?_; rintro e w1 ⟨rfl, rfl⟩; rw [← Ha.out]
    go_wp2_with fail
    refine (mag _ _ d0 d1).mono ?_; rintro e w1 ⟨rfl, rfl⟩; rw [← Hb.out]
    go_wp2_with fail
    refine (gcdU _ _ _ a0 b0 (by omega) (by omega)).mono ?_; rintro e w1 ⟨rfl, j, rfl⟩; rw [Hga.out, ← Hg.out]
    go_wp2_with fail
    go_quiet (fail)
    go_wp2
    go_returns
    refine ⟨by simp only [ratV]; try rfl, ?_⟩; (repeat' (first | (with_reducible exact Below.refl _ _) | (with_reducible refine below_drewN ?_ _) | (with_reducible refine Below.drew ?_) | (with_reducible refine Below.setCell ?_ ?_ _) | (with_reducible refine Below.alloc ?_ ?_ _) | go_size))
end Go.Proofs.YtbncfknjgldcbaaGreat
/- Contracts of the four operations of rat: the closures, apply, Add, Sub, Mul, Div. -/
namespace Go.Proofs.YtbncfknjgldcbaaGreat
open Go.RowKit

theorem mulb {a b : Int} (a0 : -1073741824 ≤ a) (a1 : a ≤ 1073741824) (b0 : -1073741824 ≤ b) (b1 : b ≤ 1073741824) : -1152921504606846976 ≤ a * b ∧ a * b ≤ 1152921504606846976 := by
  have h : (a * b).natAbs ≤ 1073741824 * 1073741824 := by rw [Int.natAbs_mul]; exact Nat.mul_le_mul (by omega) (by omega)
  omega

/-- A map literal's next entry, in the block made last. -/
theorem put_new {P : Program} {t k e : TypeId} {q : IntKind} (ht : P.underlying t = some (.map k e)) (hk : P.underlying k = some (.int q)) (W : World) (es : Array MapEntry) (c : Nat) (x : Int) (v : Value)
    (hf : Instr.findNow (.int q) (.int q x) es.toList 0 = some none) :
    (Instr.mapUpdate t (.map (some W.heap.size)) (.int q x) v).run P (W.alloc (.map es c)) = .ok () (W.alloc (.map (es.push { key := .int q x, val := v, born := c }) (c + 1))) := by
  have hh : (W.alloc (.map es c)).heap[W.heap.size]? = some (.map es c) := (MapKept.heap_alloc W _).1
  have hs : ({ W.alloc (.map es c) with heap := (W.alloc (.map es c)).heap.setIfInBounds W.heap.size (.map (es.push { key := .int q x, val := v, born := c }) (c + 1)) } : World) = W.alloc (.map (es.push { key := .int q x, val := v, born := c }) (c + 1)) := by
    simp only [World.alloc, World.mk.injEq, and_true]
    apply Array.ext_getElem?
    intro i
    simp only [Array.getElem?_setIfInBounds, Array.getElem?_push, Array.size_push]
    by_cases hi : i = W.heap.size
    · subst hi; simp
    · simp [hi, Ne.symm hi]
  have hkey : MapKept.IsKey (.int q) (.int q x) := by simp [MapKept.IsKey]
  simp [Instr.mapUpdate, run_underlying ht, MapKept.run_getObj_map hh, MapKept.run_checkKey hk hkey, MapKept.run_findKey hk hf, MapKept.run_setObj_map _ hh, Result.andThen]
  exact hs
/-- A look-up in it. -/
theorem get_new {P : Program} {t k e : TypeId} {q : IntKind} (ht : P.underlying t = some (.map k e)) (hk : P.underlying k = some (.int q)) (W : World) (es : Array MapEntry) (c : Nat) (x : Int) (i : Nat) (v : Value)
    (hf : Instr.findNow (.int q) (.int q x) es.toList 0 = some (some (i, v))) :
    (Instr.lookup t (.map (some W.heap.size)) (.int q x) false).run P (W.alloc (.map es c)) = .ok v (W.alloc (.map es c)) := by
  have hh : (W.alloc (.map es c)).heap[W.heap.size]? = some (.map es c) := (MapKept.heap_alloc W _).1
  have hkey : MapKept.IsKey (.int q) (.int q x) := by simp [MapKept.IsKey]
  simp [Instr.lookup, run_underlying ht, MapKept.run_getObj_map hh, MapKept.run_checkKey hk hkey, MapKept.run_findKey hk hf, Result.andThen]
def fnV (f : Nat) : Value := .func (.func f) #[] #[]
def mapE0 : Array MapEntry := #[]
def mapE1 : Array MapEntry := mapE0.push { key := .int .u8 43, val := fnV 123, born := 0 }
def mapE2 : Array MapEntry := mapE1.push { key := .int .u8 45, val := fnV 124, born := 1 }
def mapE3 : Array MapEntry := mapE2.push { key := .int .u8 42, val := fnV 125, born := 2 }
def mapE4 : Array MapEntry := mapE3.push { key := .int .u8 47, val := fnV 126, born := 3 }
theorem map_put1 (W : World) : (Instr.mapUpdate 157 (.map (some W.heap.size)) (.int .u8 43) (.func (.func 123) #[] #[])).run Tryz.prog (W.alloc (.map #[] 0)) = .ok () (W.alloc (.map mapE1 1)) :=
  put_new Tryz.underlying157 Tryz.underlying5 W mapE0 0 43 _ (by kernel_rfl)
theorem map_put2 (W : World) : (Instr.mapUpdate 157 (.map (some W.heap.size)) (.int .u8 45) (.func (.func 124) #[] #[])).run Tryz.prog (W.alloc (.map mapE1 1)) = .ok () (W.alloc (.map mapE2 2)) :=
  put_new Tryz.underlying157 Tryz.underlying5 W mapE1 1 45 _ (by kernel_rfl)
theorem map_put3 (W : World) : (Instr.mapUpdate 157 (.map (some W.heap.size)) (.int .u8 42) (.func (.func 125) #[] #[])).run Tryz.prog (W.alloc (.map mapE2 2)) = .ok () (W.alloc (.map mapE3 3)) :=
  put_new Tryz.underlying157 Tryz.underlying5 W mapE2 2 42 _ (by kernel_rfl)
theorem map_put4 (W : World) : (Instr.mapUpdate 157 (.map (some W.heap.size)) (.int .u8 47) (.func (.func 126) #[] #[])).run Tryz.prog (W.alloc (.map mapE3 3)) = .ok () (W.alloc (.map mapE4 4)) :=
  put_new Tryz.underlying157 Tryz.underlying5 W mapE3 3 47 _ (by kernel_rfl)
theorem map_get_add (W : World) : (Instr.lookup 157 (.map (some W.heap.size)) (.int .u8 43) false).run Tryz.prog (W.alloc (.map mapE4 4)) = .ok (.func (.func 123) #[] #[]) (W.alloc (.map mapE4 4)) :=
  get_new Tryz.underlying157 Tryz.underlying5 W mapE4 4 43 0 _ (by kernel_rfl)
theorem map_get_sub (W : World) : (Instr.lookup 157 (.map (some W.heap.size)) (.int .u8 45) false).run Tryz.prog (W.alloc (.map mapE4 4)) = .ok (.func (.func 124) #[] #[]) (W.alloc (.map mapE4 4)) :=
  get_new Tryz.underlying157 Tryz.underlying5 W mapE4 4 45 1 _ (by kernel_rfl)
theorem map_get_mul (W : World) : (Instr.lookup 157 (.map (some W.heap.size)) (.int .u8 42) false).run Tryz.prog (W.alloc (.map mapE4 4)) = .ok (.func (.func 125) #[] #[]) (W.alloc (.map mapE4 4)) :=
  get_new Tryz.underlying157 Tryz.underlying5 W mapE4 4 42 2 _ (by kernel_rfl)
theorem map_get_div (W : World) : (Instr.lookup 157 (.map (some W.heap.size)) (.int .u8 47) false).run Tryz.prog (W.alloc (.map mapE4 4)) = .ok (.func (.func 126) #[] #[]) (W.alloc (.map mapE4 4)) :=
  get_new Tryz.underlying157 Tryz.underlying5 W mapE4 4 47 3 _ (by kernel_rfl)
theorem cell_map (W : World) (b o : Nat) (m : Array MapEntry) (c : Nat) (h : b < W.heap.size) : (W.alloc (.map m c)).cell? ⟨b, o, none⟩ = W.cell? ⟨b, o, none⟩ := World.cell?_of_block (w := W) (Below.heap_alloc W _ b h)
theorem frozen_map (W : World) (b o : Nat) (m : Array MapEntry) (c : Nat) (h : b < W.heap.size) : (W.alloc (.map m c)).frozen? ⟨b, o, none⟩ = W.frozen? ⟨b, o, none⟩ := World.frozen?_of_block (w := W) (Below.heap_alloc W _ b h)
theorem ret_two {k l : IntKind} {a b c d : Int} (h : a = b) (g : c = d) : Ending.returned (.tuple #[.int k a, .int l c]) = .returned (.tuple #[.int k b, .int l d]) := by rw [h, g]

set_option maxHeartbeats 1000000 in
theorem op_add (a b c d : Int) (w : World) (a0 : -1073741824 ≤ a) (a1 : a ≤ 1073741824) (b0 : -1073741824 ≤ b) (b1 : b ≤ 1073741824) (c0 : -1073741824 ≤ c) (c1 : c ≤ 1073741824) (d0 : -1073741824 ≤ d) (d1 : d ≤ 1073741824) :
    Calls Tryz.prog 123 #[.agg #[.int .i64 a, .int .i64 b], .agg #[.int .i64 c, .int .i64 d]] w fun e w' => e = .returned (.tuple #[.int .i64 (a * d + c * b), .int .i64 (b * d)]) ∧ Below w.heap.size w w' := by
  have h1 := mulb a0 a1 d0 d1
  have h2 := mulb c0 c1 b0 b1
  have h3 := mulb b0 b1 d0 d1
  go_enter Tryz.func123, Tryz.ntmps123
  go_wp2_with fail
  go_quiet (fail)
  go_wp2
  go_returns
  exact ⟨rfl, by (repeat' (first | (with_reducible exact Below.refl _ _) | (with_reducible refine below_drewN ?_ _) | (with_reducible refine Below.drew ?_) | (with_reducible refine Below.setCell ?_ ?_ _) | (with_reducible refine Below.alloc ?_ ?_ _) | go_size))⟩

set_option maxHeartbeats 1000000 in
theorem op_sub (a b c d : Int) (w : World) (a0 : -1073741824 ≤ a) (a1 : a ≤ 1073741824) (b0 : -1073741824 ≤ b) (b1 : b ≤ 1073741824) (c0 : -1073741824 ≤ c) (c1 : c ≤ 1073741824) (d0 : -1073741824 ≤ d) (d1 : d ≤ 1073741824) :
    Calls Tryz.prog 124 #[.agg #[.int .i64 a, .int .i64 b], .agg #[.int .i64 c, .int .i64 d]] w fun e w' => e = .returned (.tuple #[.int .i64 (a * d - c * b), .int .i64 (b * d)]) ∧ Below w.heap.size w w' := by
  have h1 := mulb a0 a1 d0 d1
  have h2 := mulb c0 c1 b0 b1
  have h3 := mulb b0 b1 d0 d1
  go_enter Tryz.func124, Tryz.ntmps124
  go_wp2_with fail
  go_quiet (fail)
  go_wp2
  go_returns
  exact ⟨rfl, by (repeat' (first | (with_reducible exact Below.refl _ _) | (with_reducible refine below_drewN ?_ _) | (with_reducible refine Below.drew ?_) | (with_reducible refine Below.setCell ?_ ?_ _) | (with_reducible refine Below.alloc ?_ ?_ _) | go_size))⟩

set_option maxHeartbeats 1000000 in
theorem op_mul (a b c d : Int) (w : World) (a0 : -1073741824 ≤ a) (a1 : a ≤ 1073741824) (b0 : -1073741824 ≤ b) (b1 : b ≤ 1073741824) (c0 : -1073741824 ≤ c) (c1 : c ≤ 1073741824) (d0 : -1073741824 ≤ d) (d1 : d ≤ 1073741824) :
    Calls Tryz.prog 125 #[.agg #[.int .i64 a, .int .i64 b], .agg #[.int .i64 c, .int .i64 d]] w fun e w' => e = .returned (.tuple #[.int .i64 (a * c), .int .i64 (b * d)]) ∧ Below w.heap.size w w' := by
  have h1 := mulb a0 a1 c0 c1
  have h3 := mulb b0 b1 d0 d1
  go_enter Tryz.func125, Tryz.ntmps125
  go_wp2_with fail
  go_quiet (fail)
  go_wp2
  go_returns
  exact ⟨rfl, by (repeat' (first | (with_reducible exact Below.refl _ _) | (with_reducible refine below_drewN ?_ _) | (with_reducible refine Below.drew ?_) | (with_reducible refine Below.setCell ?_ ?_ _) | (with_reducible refine Below.alloc ?_ ?_ _) | go_size))⟩

set_option maxHeartbeats 1000000 in
theorem op_div (a b c d : Int) (w : World) (a0 : -1073741824 ≤ a) (a1 : a ≤ 1073741824) (b0 : -1073741824 ≤ b) (b1 : b ≤ 1073741824) (c0 : -1073741824 ≤ c) (c1 : c ≤ 1073741824) (d0 : -1073741824 ≤ d) (d1 : d ≤ 1073741824) :
    Calls Tryz.prog 126 #[.agg #[.int .i64 a, .int .i64 b], .agg #[.int .i64 c, .int .i64 d]] w fun e w' => e = .returned (.tuple #[.int .i64 (a * d), .int .i64 (b * c)]) ∧ Below w.heap.size w w' := by
  have h1 := mulb a0 a1 d0 d1
  have h3 := mulb b0 b1 c0 c1
  go_enter Tryz.func126, Tryz.ntmps126
  go_wp2_with fail
  go_quiet (fail)
  go_wp2
  go_returns
  exact ⟨rfl, by (repeat' (first | (with_reducible exact Below.refl _ _) | (with_reducible refine below_drewN ?_ _) | (with_reducible refine Below.drew ?_) | (with_reducible refine Below.setCell ?_ ?_ _) | (with_reducible refine Below.alloc ?_ ?_ _) | go_size))⟩

set_option maxHeartbeats 1000000 in
/-- apply at two valid numbers: the closure that its table gives, then Make. -/
theorem apply_add (a b c d : Int) (w : World) (hx : vldB a b = true) (hy : vldB c d = true) :
    Calls Tryz.prog 93 #[.int .u8 43, .agg #[.int .i64 a, .int .i64 b], .agg #[.int .i64 c, .int .i64 d]] w fun e w' => e = .returned (ratV (mkN (a * d + c * b) (b * d))) ∧ Below w.heap.size w w' := by
  obtain ⟨b0, b1, a0, a1, -⟩ := vld_bd hx
  obtain ⟨d0, d1, c0, c1, -⟩ := vld_bd hy
  have Hx := Lib.hid hx
  have Hy := Lib.hid hy
  clear hx hy
  have hp : Hid (-9223372036854775808 ≤ a * d + c * b ∧ a * d + c * b ≤ 9223372036854775807) := by
    have h1 := mulb a0 a1 (show -1073741824 ≤ d by omega) d1
    have h2 := mulb c0 c1 (show -1073741824 ≤ b by omega) b1
    have h3 := mulb a0 a1 c0 c1
    exact ⟨by omega, by omega⟩
  have hq : Hid (-9223372036854775808 ≤ b * d ∧ b * d ≤ 9223372036854775807) := by
    have h1 := mulb (show -1073741824 ≤ b by omega) b1 (show -1073741824 ≤ d by omega) d1
    have h2 := mulb (show -1073741824 ≤ b by omega) b1 c0 c1
    exact ⟨by omega, by omega⟩
  obtain ⟨p, Hp⟩ : ∃ p, Hid (p = a * d + c * b) := ⟨_, rfl⟩
  obtain ⟨q, Hq⟩ : ∃ q, Hid (q = b * d) := ⟨_, rfl⟩
  rw [← Hp.out] at hp
  rw [← Hq.out] at hq
  rw [← Hp.out, ← Hq.out]
  have mm := @run_makeMap Tryz.prog
  have m1 := @map_put1
  have m2 := @map_put2
  have m3 := @map_put3
  have m4 := @map_put4
  have ml := @map_get_add
  have cm := @cell_map
  go_enter Tryz.func93, Tryz.ntmps93
  go_wp2_with fail
  refine (valid_any a b _ (by omega) (by omega) (by omega) (by omega)).mono ?_; rintro e w1 ⟨rfl, hb1⟩; rw [Hx.out]
  obtain ⟨hc, hf⟩ := bcell hb1
  have hz := hb1.size
  simp only [World.size_alloc] at hc hf hz
  go_wp2_with fail
  refine (valid_any c d _ (by omega) (by omega) (by omega) (by omega)).mono ?_; rintro e w2 ⟨rfl, hb2⟩; rw [Hy.out]
  replace hb2 := bnext hb1 hb2
  clear hc hf hz hb1
  obtain ⟨hc, hf⟩ := bcell hb2
  have hz := hb2.size
  simp only [World.size_alloc] at hc hf hz
  have k0 : w.heap.size < w2.heap.size := by omega
  have k1 : w.heap.size + 1 < w2.heap.size := by omega
  go_wp2_with fail
  refine (op_add a b c d _ a0 a1 (by omega) b1 c0 c1 (by omega) d1).mono ?_; rintro e w3 ⟨rfl, hb3⟩
  replace hb3 := bnext (hb2.alloc hb2.size _) hb3
  clear hc hf hz hb2 k0 k1 cm mm m1 m2 m3 m4 ml
  rw [← Hp.out, ← Hq.out]
  go_wp2_with fail
  refine (make_any p q _ hp.out.1 hp.out.2 hq.out.1 hq.out.2).mono ?_; rintro e w4 ⟨rfl, hb4⟩
  replace hb4 := bnext hb3 hb4
  clear hb3
  obtain ⟨hc, hf⟩ := bcell hb4
  have hz := hb4.size
  simp only [World.size_alloc] at hc hf hz
  obtain ⟨m, hm⟩ : ∃ m, m = mkN p q := ⟨_, rfl⟩
  rw [← hm]
  have Hm := Lib.hid hm
  clear hm
  obtain ⟨m1, m2, m3⟩ := m
  simp only [ratV]
  go_wp2
  refine bodyPost_ret (v := ratV (m1, m2, m3)) (by simp [results, Tryz.results93, go_sem, ratV, hc]) rfl ⟨by rw [← Hm.out], ?_⟩
  have hB : Below w.heap.size w w4 := ((((Below.refl _ _).alloc (Nat.le_refl _) _).alloc (by simp) _).alloc (by simp; omega) _).trans (hb4.mono (by simp; omega))
  exact (hB.setCell (by simp; omega) _).setCell (by simp; omega) _

set_option maxHeartbeats 1000000 in
/-- apply at two valid numbers: the closure that its table gives, then Make. -/
theorem apply_sub (a b c d : Int) (w : World) (hx : vldB a b = true) (hy : vldB c d = true) :
    Calls Tryz.prog 93 #[.int .u8 45, .agg #[.int .i64 a, .int .i64 b], .agg #[.int .i64 c, .int .i64 d]] w fun e w' => e = .returned (ratV (mkN (a * d - c * b) (b * d))) ∧ Below w.heap.size w w' := by
  obtain ⟨b0, b1, a0, a1, -⟩ := vld_bd hx
  obtain ⟨d0, d1, c0, c1, -⟩ := vld_bd hy
  have Hx := Lib.hid hx
  have Hy := Lib.hid hy
  clear hx hy
  have hp : Hid (-9223372036854775808 ≤ a * d - c * b ∧ a * d - c * b ≤ 9223372036854775807) := by
    have h1 := mulb a0 a1 (show -1073741824 ≤ d by omega) d1
    have h2 := mulb c0 c1 (show -1073741824 ≤ b by omega) b1
    have h3 := mulb a0 a1 c0 c1
    exact ⟨by omega, by omega⟩
  have hq : Hid (-9223372036854775808 ≤ b * d ∧ b * d ≤ 9223372036854775807) := by
    have h1 := mulb (show -1073741824 ≤ b by omega) b1 (show -1073741824 ≤ d by omega) d1
    have h2 := mulb (show -1073741824 ≤ b by omega) b1 c0 c1
    exact ⟨by omega, by omega⟩
  obtain ⟨p, Hp⟩ : ∃ p, Hid (p = a * d - c * b) := ⟨_, rfl⟩
  obtain ⟨q, Hq⟩ : ∃ q, Hid (q = b * d) := ⟨_, rfl⟩
  rw [← Hp.out] at hp
  rw [← Hq.out] at hq
  rw [← Hp.out, ← Hq.out]
  have mm := @run_makeMap Tryz.prog
  have m1 := @map_put1
  have m2 := @map_put2
  have m3 := @map_put3
  have m4 := @map_put4
  have ml := @map_get_sub
  have cm := @cell_map
  go_enter Tryz.func93, Tryz.ntmps93
  go_wp2_with fail
  refine (valid_any a b _ (by omega) (by omega) (by omega) (by omega)).mono ?_; rintro e w1 ⟨rfl, hb1⟩; rw [Hx.out]
  obtain ⟨hc, hf⟩ := bcell hb1
  have hz := hb1.size
  simp only [World.size_alloc] at hc hf hz
  go_wp2_with fail
  refine (valid_any c d _ (by omega) (by omega) (by omega) (by omega)).mono ?_; rintro e w2 ⟨rfl, hb2⟩; rw [Hy.out]
  replace hb2 := bnext hb1 hb2
  clear hc hf hz hb1
  obtain ⟨hc, hf⟩ := bcell hb2
  have hz := hb2.size
  simp only [World.size_alloc] at hc hf hz
  have k0 : w.heap.size < w2.heap.size := by omega
  have k1 : w.heap.size + 1 < w2.heap.size := by omega
  go_wp2_with fail
  refine (op_sub a b c d _ a0 a1 (by omega) b1 c0 c1 (by omega) d1).mono ?_; rintro e w3 ⟨rfl, hb3⟩
  replace hb3 := bnext (hb2.alloc hb2.size _) hb3
  clear hc hf hz hb2 k0 k1 cm mm m1 m2 m3 m4 ml
  rw [← Hp.out, ← Hq.out]
  go_wp2_with fail
  refine (make_any p q _ hp.out.1 hp.out.2 hq.out.1 hq.out.2).mono ?_; rintro e w4 ⟨rfl, hb4⟩
  replace hb4 := bnext hb3 hb4
  clear hb3
  obtain ⟨hc, hf⟩ := bcell hb4
  have hz := hb4.size
  simp only [World.size_alloc] at hc hf hz
  obtain ⟨m, hm⟩ : ∃ m, m = mkN p q := ⟨_, rfl⟩
  rw [← hm]
  have Hm := Lib.hid hm
  clear hm
  obtain ⟨m1, m2, m3⟩ := m
  simp only [ratV]
  go_wp2
  refine bodyPost_ret (v := ratV (m1, m2, m3)) (by simp [results, Tryz.results93, go_sem, ratV, hc]) rfl ⟨by rw [← Hm.out], ?_⟩
  have hB : Below w.heap.size w w4 := ((((Below.refl _ _).alloc (Nat.le_refl _) _).alloc (by simp) _).alloc (by simp; omega) _).trans (hb4.mono (by simp; omega))
  exact (hB.setCell (by simp; omega) _).setCell (by simp; omega) _

set_option maxHeartbeats 1000000 in
/-- apply at two valid numbers: the closure that its table gives, then Make. -/
theorem apply_mul (a b c d : Int) (w : World) (hx : vldB a b = true) (hy : vldB c d = true) :
    Calls Tryz.prog 93 #[.int .u8 42, .agg #[.int .i64 a, .int .i64 b], .agg #[.int .i64 c, .int .i64 d]] w fun e w' => e = .returned (ratV (mkN (a * c) (b * d))) ∧ Below w.heap.size w w' := by
  obtain ⟨b0, b1, a0, a1, -⟩ := vld_bd hx
  obtain ⟨d0, d1, c0, c1, -⟩ := vld_bd hy
  have Hx := Lib.hid hx
  have Hy := Lib.hid hy
  clear hx hy
  have hp : Hid (-9223372036854775808 ≤ a * c ∧ a * c ≤ 9223372036854775807) := by
    have h1 := mulb a0 a1 (show -1073741824 ≤ d by omega) d1
    have h2 := mulb c0 c1 (show -1073741824 ≤ b by omega) b1
    have h3 := mulb a0 a1 c0 c1
    exact ⟨by omega, by omega⟩
  have hq : Hid (-9223372036854775808 ≤ b * d ∧ b * d ≤ 9223372036854775807) := by
    have h1 := mulb (show -1073741824 ≤ b by omega) b1 (show -1073741824 ≤ d by omega) d1
    have h2 := mulb (show -1073741824 ≤ b by omega) b1 c0 c1
    exact ⟨by omega, by omega⟩
  obtain ⟨p, Hp⟩ : ∃ p, Hid (p = a * c) := ⟨_, rfl⟩
  obtain ⟨q, Hq⟩ : ∃ q, Hid (q = b * d) := ⟨_, rfl⟩
  rw [← Hp.out] at hp
  rw [← Hq.out] at hq
  rw [← Hp.out, ← Hq.out]
  have mm := @run_makeMap Tryz.prog
  have m1 := @map_put1
  have m2 := @map_put2
  have m3 := @map_put3
  have m4 := @map_put4
  have ml := @map_get_mul
  have cm := @cell_map
  go_enter Tryz.func93, Tryz.ntmps93
  go_wp2_with fail
  refine (valid_any a b _ (by omega) (by omega) (by omega) (by omega)).mono ?_; rintro e w1 ⟨rfl, hb1⟩; rw [Hx.out]
  obtain ⟨hc, hf⟩ := bcell hb1
  have hz := hb1.size
  simp only [World.size_alloc] at hc hf hz
  go_wp2_with fail
  refine (valid_any c d _ (by omega) (by omega) (by omega) (by omega)).mono ?_; rintro e w2 ⟨rfl, hb2⟩; rw [Hy.out]
  replace hb2 := bnext hb1 hb2
  clear hc hf hz hb1
  obtain ⟨hc, hf⟩ := bcell hb2
  have hz := hb2.size
  simp only [World.size_alloc] at hc hf hz
  have k0 : w.heap.size < w2.heap.size := by omega
  have k1 : w.heap.size + 1 < w2.heap.size := by omega
  go_wp2_with fail
  refine (op_mul a b c d _ a0 a1 (by omega) b1 c0 c1 (by omega) d1).mono ?_; rintro e w3 ⟨rfl, hb3⟩
  replace hb3 := bnext (hb2.alloc hb2.size _) hb3
  clear hc hf hz hb2 k0 k1 cm mm m1 m2 m3 m4 ml
  rw [← Hp.out, ← Hq.out]
  go_wp2_with fail
  refine (make_any p q _ hp.out.1 hp.out.2 hq.out.1 hq.out.2).mono ?_; rintro e w4 ⟨rfl, hb4⟩
  replace hb4 := bnext hb3 hb4
  clear hb3
  obtain ⟨hc, hf⟩ := bcell hb4
  have hz := hb4.size
  simp only [World.size_alloc] at hc hf hz
  obtain ⟨m, hm⟩ : ∃ m, m = mkN p q := ⟨_, rfl⟩
  rw [← hm]
  have Hm := Lib.hid hm
  clear hm
  obtain ⟨m1, m2, m3⟩ := m
  simp only [ratV]
  go_wp2
  refine bodyPost_ret (v := ratV (m1, m2, m3)) (by simp [results, Tryz.results93, go_sem, ratV, hc]) rfl ⟨by rw [← Hm.out], ?_⟩
  have hB : Below w.heap.size w w4 := ((((Below.refl _ _).alloc (Nat.le_refl _) _).alloc (by simp) _).alloc (by simp; omega) _).trans (hb4.mono (by simp; omega))
  exact (hB.setCell (by simp; omega) _).setCell (by simp; omega) _

set_option maxHeartbeats 1000000 in
/-- apply at two valid numbers: the closure that its table gives, then Make. -/
theorem apply_div (a b c d : Int) (w : World) (hx : vldB a b = true) (hy : vldB c d = true) :
    Calls Tryz.prog 93 #[.int .u8 47, .agg #[.int .i64 a, .int .i64 b], .agg #[.int .i64 c, .int .i64 d]] w fun e w' => e = .returned (ratV (mkN (a * d) (b * c))) ∧ Below w.heap.size w w' := by
  obtain ⟨b0, b1, a0, a1, -⟩ := vld_bd hx
  obtain ⟨d0, d1, c0, c1, -⟩ := vld_bd hy
  have Hx := Lib.hid hx
  have Hy := Lib.hid hy
  clear hx hy
  have hp : Hid (-9223372036854775808 ≤ a * d ∧ a * d ≤ 9223372036854775807) := by
    have h1 := mulb a0 a1 (show -1073741824 ≤ d by omega) d1
    have h2 := mulb c0 c1 (show -1073741824 ≤ b by omega) b1
    have h3 := mulb a0 a1 c0 c1
    exact ⟨by omega, by omega⟩
  have hq : Hid (-9223372036854775808 ≤ b * c ∧ b * c ≤ 9223372036854775807) := by
    have h1 := mulb (show -1073741824 ≤ b by omega) b1 (show -1073741824 ≤ d by omega) d1
    have h2 := mulb (show -1073741824 ≤ b by omega) b1 c0 c1
    exact ⟨by omega, by omega⟩
  obtain ⟨p, Hp⟩ : ∃ p, Hid (p = a * d) := ⟨_, rfl⟩
  obtain ⟨q, Hq⟩ : ∃ q, Hid (q = b * c) := ⟨_, rfl⟩
  rw [← Hp.out] at hp
  rw [← Hq.out] at hq
  rw [← Hp.out, ← Hq.out]
  have mm := @run_makeMap Tryz.prog
  have m1 := @map_put1
  have m2 := @map_put2
  have m3 := @map_put3
  have m4 := @map_put4
  have ml := @map_get_div
  have cm := @cell_map
  go_enter Tryz.func93, Tryz.ntmps93
  go_wp2_with fail
  refine (valid_any a b _ (by omega) (by omega) (by omega) (by omega)).mono ?_; rintro e w1 ⟨rfl, hb1⟩; rw [Hx.out]
  obtain ⟨hc, hf⟩ := bcell hb1
  have hz := hb1.size
  simp only [World.size_alloc] at hc hf hz
  go_wp2_with fail
  refine (valid_any c d _ (by omega) (by omega) (by omega) (by omega)).mono ?_; rintro e w2 ⟨rfl, hb2⟩; rw [Hy.out]
  replace hb2 := bnext hb1 hb2
  clear hc hf hz hb1
  obtain ⟨hc, hf⟩ := bcell hb2
  have hz := hb2.size
  simp only [World.size_alloc] at hc hf hz
  have k0 : w.heap.size < w2.heap.size := by omega
  have k1 : w.heap.size + 1 < w2.heap.size := by omega
  go_wp2_with fail
  refine (op_div a b c d _ a0 a1 (by omega) b1 c0 c1 (by omega) d1).mono ?_; rintro e w3 ⟨rfl, hb3⟩
  replace hb3 := bnext (hb2.alloc hb2.size _) hb3
  clear hc hf hz hb2 k0 k1 cm mm m1 m2 m3 m4 ml
  rw [← Hp.out, ← Hq.out]
  go_wp2_with fail
  refine (make_any p q _ hp.out.1 hp.out.2 hq.out.1 hq.out.2).mono ?_; rintro e w4 ⟨rfl, hb4⟩
  replace hb4 := bnext hb3 hb4
  clear hb3
  obtain ⟨hc, hf⟩ := bcell hb4
  have hz := hb4.size
  simp only [World.size_alloc] at hc hf hz
  obtain ⟨m, hm⟩ : ∃ m, m = mkN p q := ⟨_, rfl⟩
  rw [← hm]
  have Hm := Lib.hid hm
  clear hm
  obtain ⟨m1, m2, m3⟩ := m
  simp only [ratV]
  go_wp2
  refine bodyPost_ret (v := ratV (m1, m2, m3)) (by simp [results, Tryz.results93, go_sem, ratV, hc]) rfl ⟨by rw [← Hm.out], ?_⟩
  have hB : Below w.heap.size w w4 := ((((Below.refl _ _).alloc (Nat.le_refl _) _).alloc (by simp) _).alloc (by simp; omega) _).trans (hb4.mono (by simp; omega))
  exact (hB.setCell (by simp; omega) _).setCell (by simp; omega) _

set_option maxHeartbeats 1000000 in
/-- apply where one of the numbers is not valid. -/
theorem apply_bad (s a b c d : Int) (w : World) (h : (vldB a b && vldB c d) = false) (a0 : -9223372036854775808 ≤ a) (a1 : a ≤ 9223372036854775807) (b0 : -9223372036854775808 ≤ b) (b1 : b ≤ 9223372036854775807) (c0 : -9223372036854775808 ≤ c) (c1 : c ≤ 9223372036854775807) (d0 : -9223372036854775808 ≤ d) (d1 : d ≤ 9223372036854775807) :
    Calls Tryz.prog 93 #[.int .u8 s, .agg #[.int .i64 a, .int .i64 b], .agg #[.int .i64 c, .int .i64 d]] w fun e w' => e = .returned (ratV (0, 0, 2)) ∧ Below w.heap.size w w' := by
  cases hx : vldB a b
  · have Hx := Lib.hid hx
    clear hx h
    go_enter Tryz.func93, Tryz.ntmps93
    go_wp2_with fail
    refine (valid_any a b _ a0 a1 b0 b1).mono ?_; rintro e w1 ⟨rfl, hb1⟩; rw [Hx.out]
    obtain ⟨hc, hf⟩ := bcell hb1
    have hz := hb1.size
    simp only [World.size_alloc] at hc hf hz
    go_wp2
    refine bodyPost_ret (v := ratV (0, 0, 2)) (by simp [results, Tryz.results93, go_sem, ratV, hc]) rfl ⟨rfl, ?_⟩
    have hB : Below w.heap.size w w1 := ((((Below.refl _ _).alloc (Nat.le_refl _) _).alloc (by simp) _).alloc (by simp; omega) _).trans (hb1.mono (by simp; omega))
    exact (hB.setCell (by simp; omega) _).setCell (by simp; omega) _
  · have hy : vldB c d = false := by rw [hx] at h; simpa using h
    have Hx := Lib.hid hx
    have Hy := Lib.hid hy
    clear hx hy h
    go_enter Tryz.func93, Tryz.ntmps93
    go_wp2_with fail
    refine (valid_any a b _ a0 a1 b0 b1).mono ?_; rintro e w1 ⟨rfl, hb1⟩; rw [Hx.out]
    obtain ⟨hc, hf⟩ := bcell hb1
    have hz := hb1.size
    simp only [World.size_alloc] at hc hf hz
    go_wp2_with fail
    refine (valid_any c d _ c0 c1 d0 d1).mono ?_; rintro e w2 ⟨rfl, hb2⟩; rw [Hy.out]
    replace hb2 := bnext hb1 hb2
    clear hc hf hz hb1
    obtain ⟨hc, hf⟩ := bcell hb2
    have hz := hb2.size
    simp only [World.size_alloc] at hc hf hz
    go_wp2
    refine bodyPost_ret (v := ratV (0, 0, 2)) (by simp [results, Tryz.results93, go_sem, ratV, hc]) rfl ⟨rfl, ?_⟩
    have hB : Below w.heap.size w w2 := ((((Below.refl _ _).alloc (Nat.le_refl _) _).alloc (by simp) _).alloc (by simp; omega) _).trans (hb2.mono (by simp; omega))
    exact (hB.setCell (by simp; omega) _).setCell (by simp; omega) _

/-- What Add returns. -/
def addN (a b c d : Int) : Int × Int × Int := if vldB a b && vldB c d then mkN (a * d + c * b) (b * d) else (0, 0, 2)
theorem apply_add_any (a b c d : Int) (w : World) (a0 : -9223372036854775808 ≤ a) (a1 : a ≤ 9223372036854775807) (b0 : -9223372036854775808 ≤ b) (b1 : b ≤ 9223372036854775807) (c0 : -9223372036854775808 ≤ c) (c1 : c ≤ 9223372036854775807) (d0 : -9223372036854775808 ≤ d) (d1 : d ≤ 9223372036854775807) :
    Calls Tryz.prog 93 #[.int .u8 43, .agg #[.int .i64 a, .int .i64 b], .agg #[.int .i64 c, .int .i64 d]] w fun e w' => e = .returned (ratV (addN a b c d)) ∧ Below w.heap.size w w' := by
  unfold addN
  cases h : vldB a b && vldB c d
  · exact apply_bad _ a b c d w h a0 a1 b0 b1 c0 c1 d0 d1
  · rw [Bool.and_eq_true] at h; exact apply_add a b c d w h.1 h.2
set_option maxHeartbeats 400000 in
theorem add_any (a b c d : Int) (w : World) (a0 : -9223372036854775808 ≤ a) (a1 : a ≤ 9223372036854775807) (b0 : -9223372036854775808 ≤ b) (b1 : b ≤ 9223372036854775807) (c0 : -9223372036854775808 ≤ c) (c1 : c ≤ 9223372036854775807) (d0 : -9223372036854775808 ≤ d) (d1 : d ≤ 9223372036854775807) :
    Calls Tryz.prog 45 #[.agg #[.int .i64 a, .int .i64 b], .agg #[.int .i64 c, .int .i64 d]] w fun e w' => e = .returned (ratV (addN a b c d)) ∧ Below w.heap.size w w' := by
  obtain ⟨m, Hm⟩ : ∃ m, Hid (m = addN a b c d) := ⟨_, rfl⟩
  rw [← Hm.out]
  go_enter Tryz.func45, Tryz.ntmps45
  go_wp2_with fail
  refine (apply_add_any a b c d _ a0 a1 b0 b1 c0 c1 d0 d1).mono ?_; rintro e w1 ⟨rfl, hb⟩; rw [← Hm.out]
  obtain ⟨hc, hf⟩ := bcell hb
  have hz := hb.size
  simp only [World.size_alloc] at hc hf hz
  obtain ⟨m1, m2, m3⟩ := m
  simp only [ratV]
  go_wp2
  refine bodyPost_ret (v := ratV (m1, m2, m3)) (by simp [results, Tryz.results45, go_sem, ratV, hc]) rfl ⟨rfl, ?_⟩
  have hB : Below w.heap.size w w1 := by
    first
    | exact ((Below.refl _ _).alloc (Nat.le_refl _) _).trans (hb.mono (by simp))
    | exact (((Below.refl _ _).alloc (Nat.le_refl _) _).alloc (by simp) _).trans (hb.mono (by simp; omega))
    | exact ((((Below.refl _ _).alloc (Nat.le_refl _) _).alloc (by simp) _).alloc (by simp; omega) _).trans (hb.mono (by simp; omega))
  exact (hB.setCell (by simp; try omega) _).setCell (by simp; try omega) _

/-- What Sub returns. -/
def subN (a b c d : Int) : Int × Int × Int := if vldB a b && vldB c d then mkN (a * d - c * b) (b * d) else (0, 0, 2)
theorem apply_sub_any (a b c d : Int) (w : World) (a0 : -9223372036854775808 ≤ a) (a1 : a ≤ 9223372036854775807) (b0 : -9223372036854775808 ≤ b) (b1 : b ≤ 9223372036854775807) (c0 : -9223372036854775808 ≤ c) (c1 : c ≤ 9223372036854775807) (d0 : -9223372036854775808 ≤ d) (d1 : d ≤ 9223372036854775807) :
    Calls Tryz.prog 93 #[.int .u8 45, .agg #[.int .i64 a, .int .i64 b], .agg #[.int .i64 c, .int .i64 d]] w fun e w' => e = .returned (ratV (subN a b c d)) ∧ Below w.heap.size w w' := by
  unfold subN
  cases h : vldB a b && vldB c d
  · exact apply_bad _ a b c d w h a0 a1 b0 b1 c0 c1 d0 d1
  · rw [Bool.and_eq_true] at h; exact apply_sub a b c d w h.1 h.2
set_option maxHeartbeats 400000 in
theorem sub_any (a b c d : Int) (w : World) (a0 : -9223372036854775808 ≤ a) (a1 : a ≤ 9223372036854775807) (b0 : -9223372036854775808 ≤ b) (b1 : b ≤ 9223372036854775807) (c0 : -9223372036854775808 ≤ c) (c1 : c ≤ 9223372036854775807) (d0 : -9223372036854775808 ≤ d) (d1 : d ≤ 9223372036854775807) :
    Calls Tryz.prog 71 #[.agg #[.int .i64 a, .int .i64 b], .agg #[.int .i64 c, .int .i64 d]] w fun e w' => e = .returned (ratV (subN a b c d)) ∧ Below w.heap.size w w' := by
  obtain ⟨m, Hm⟩ : ∃ m, Hid (m = subN a b c d) := ⟨_, rfl⟩
  rw [← Hm.out]
  go_enter Tryz.func71, Tryz.ntmps71
  go_wp2_with fail
  refine (apply_sub_any a b c d _ a0 a1 b0 b1 c0 c1 d0 d1).mono ?_; rintro e w1 ⟨rfl, hb⟩; rw [← Hm.out]
  obtain ⟨hc, hf⟩ := bcell hb
  have hz := hb.size
  simp only [World.size_alloc] at hc hf hz
  obtain ⟨m1, m2, m3⟩ := m
  simp only [ratV]
  go_wp2
  refine bodyPost_ret (v := ratV (m1, m2, m3)) (by simp [results, Tryz.results71, go_sem, ratV, hc]) rfl ⟨rfl, ?_⟩
  have hB : Below w.heap.size w w1 := by
    first
    | exact ((Below.refl _ _).alloc (Nat.le_refl _) _).trans (hb.mono (by simp))
    | exact (((Below.refl _ _).alloc (Nat.le_refl _) _).alloc (by simp) _).trans (hb.mono (by simp; omega))
    | exact ((((Below.refl _ _).alloc (Nat.le_refl _) _).alloc (by simp) _).alloc (by simp; omega) _).trans (hb.mono (by simp; omega))
  exact (hB.setCell (by simp; try omega) _).setCell (by simp; try omega) _

/-- What Mul returns. -/
def mulN (a b c d : Int) : Int × Int × Int := if vldB a b && vldB c d then mkN (a * c) (b * d) else (0, 0, 2)
theorem apply_mul_any (a b c d : Int) (w : World) (a0 : -9223372036854775808 ≤ a) (a1 : a ≤ 9223372036854775807) (b0 : -9223372036854775808 ≤ b) (b1 : b ≤ 9223372036854775807) (c0 : -9223372036854775808 ≤ c) (c1 : c ≤ 9223372036854775807) (d0 : -9223372036854775808 ≤ d) (d1 : d ≤ 9223372036854775807) :
    Calls Tryz.prog 93 #[.int .u8 42, .agg #[.int .i64 a, .int .i64 b], .agg #[.int .i64 c, .int .i64 d]] w fun e w' => e = .returned (ratV (mulN a b c d)) ∧ Below w.heap.size w w' := by
  unfold mulN
  cases h : vldB a b && vldB c d
  · exact apply_bad _ a b c d w h a0 a1 b0 b1 c0 c1 d0 d1
  · rw [Bool.and_eq_true] at h; exact apply_mul a b c d w h.1 h.2
set_option maxHeartbeats 400000 in
theorem mul_any (a b c d : Int) (w : World) (a0 : -9223372036854775808 ≤ a) (a1 : a ≤ 9223372036854775807) (b0 : -9223372036854775808 ≤ b) (b1 : b ≤ 9223372036854775807) (c0 : -9223372036854775808 ≤ c) (c1 : c ≤ 9223372036854775807) (d0 : -9223372036854775808 ≤ d) (d1 : d ≤ 9223372036854775807) :
    Calls Tryz.prog 77 #[.agg #[.int .i64 a, .int .i64 b], .agg #[.int .i64 c, .int .i64 d]] w fun e w' => e = .returned (ratV (mulN a b c d)) ∧ Below w.heap.size w w' := by
  obtain ⟨m, Hm⟩ : ∃ m, Hid (m = mulN a b c d) := ⟨_, rfl⟩
  rw [← Hm.out]
  go_enter Tryz.func77, Tryz.ntmps77
  go_wp2_with fail
  refine (apply_mul_any a b c d _ a0 a1 b0 b1 c0 c1 d0 d1).mono ?_; rintro e w1 ⟨rfl, hb⟩; rw [← Hm.out]
  obtain ⟨hc, hf⟩ := bcell hb
  have hz := hb.size
  simp only [World.size_alloc] at hc hf hz
  obtain ⟨m1, m2, m3⟩ := m
  simp only [ratV]
  go_wp2
  refine bodyPost_ret (v := ratV (m1, m2, m3)) (by simp [results, Tryz.results77, go_sem, ratV, hc]) rfl ⟨rfl, ?_⟩
  have hB : Below w.heap.size w w1 := by
    first
    | exact ((Below.refl _ _).alloc (Nat.le_refl _) _).trans (hb.mono (by simp))
    | exact (((Below.refl _ _).alloc (Nat.le_refl _) _).alloc (by simp) _).trans (hb.mono (by simp; omega))
    | exact ((((Below.refl _ _).alloc (Nat.le_refl _) _).alloc (by simp) _).alloc (by simp; omega) _).trans (hb.mono (by simp; omega))
  exact (hB.setCell (by simp; try omega) _).setCell (by simp; try omega) _

/-- What Div returns. -/
def divN (a b c d : Int) : Int × Int × Int := if vldB a b && vldB c d then mkN (a * d) (b * c) else (0, 0, 2)
theorem apply_div_any (a b c d : Int) (w : World) (a0 : -9223372036854775808 ≤ a) (a1 : a ≤ 9223372036854775807) (b0 : -9223372036854775808 ≤ b) (b1 : b ≤ 9223372036854775807) (c0 : -9223372036854775808 ≤ c) (c1 : c ≤ 9223372036854775807) (d0 : -9223372036854775808 ≤ d) (d1 : d ≤ 9223372036854775807) :
    Calls Tryz.prog 93 #[.int .u8 47, .agg #[.int .i64 a, .int .i64 b], .agg #[.int .i64 c, .int .i64 d]] w fun e w' => e = .returned (ratV (divN a b c d)) ∧ Below w.heap.size w w' := by
  unfold divN
  cases h : vldB a b && vldB c d
  · exact apply_bad _ a b c d w h a0 a1 b0 b1 c0 c1 d0 d1
  · rw [Bool.and_eq_true] at h; exact apply_div a b c d w h.1 h.2
set_option maxHeartbeats 400000 in
theorem div_any (a b c d : Int) (w : World) (a0 : -9223372036854775808 ≤ a) (a1 : a ≤ 9223372036854775807) (b0 : -9223372036854775808 ≤ b) (b1 : b ≤ 9223372036854775807) (c0 : -9223372036854775808 ≤ c) (c1 : c ≤ 9223372036854775807) (d0 : -9223372036854775808 ≤ d) (d1 : d ≤ 9223372036854775807) :
    Calls Tryz.prog 70 #[.agg #[.int .i64 a, .int .i64 b], .agg #[.int .i64 c, .int .i64 d]] w fun e w' => e = .returned (ratV (divN a b c d)) ∧ Below w.heap.size w w' := by
  obtain ⟨m, Hm⟩ : ∃ m, Hid (m = divN a b c d) := ⟨_, rfl⟩
  rw [← Hm.out]
  go_enter Tryz.func70, Tryz.ntmps70
  go_wp2_with fail
  refine (apply_div_any a b c d _ a0 a1 b0 b1 c0 c1 d0 d1).mono ?_; rintro e w1 ⟨rfl, hb⟩; rw [← Hm.out]
  obtain ⟨hc, hf⟩ := bcell hb
  have hz := hb.size
  simp only [World.size_alloc] at hc hf hz
  obtain ⟨m1, m2, m3⟩ := m
  simp only [ratV]
  go_wp2
  refine bodyPost_ret (v := ratV (m1, m2, m3)) (by simp [results, Tryz.results70, go_sem, ratV, hc]) rfl ⟨rfl, ?_⟩
  have hB : Below w.heap.size w w1 := by
    first
    | exact ((Below.refl _ _).alloc (Nat.le_refl _) _).trans (hb.mono (by simp))
    | exact (((Below.refl _ _).alloc (Nat.le_refl _) _).alloc (by simp) _).trans (hb.mono (by simp; omega))
    | exact ((((Below.refl _ _).alloc (Nat.le_refl _) _).alloc (by simp) _).alloc (by simp; omega) _).trans (hb.mono (by simp; omega))
  exact (hB.setCell (by simp; try omega) _).setCell (by simp; try omega) _

end Go.Proofs.YtbncfknjgldcbaaGreat
/- The contract of rat.Cmp, which also tells that draws only go on; how worlds grow. -/
namespace Go.Proofs.YtbncfknjgldcbaaGreat
open Go.RowKit

/-- The world has only grown: new blocks, draws. -/
structure Lays (W W' : World) : Prop where
  b : Below W.heap.size W W'
  d : W.drawn ≤ W'.drawn
theorem Lays.refl (W : World) : Lays W W := ⟨Below.refl _ _, Nat.le_refl _⟩
theorem Lays.trans {A B C : World} (h : Lays A B) (k : Lays B C) : Lays A C := ⟨h.b.trans (k.b.mono h.b.size), Nat.le_trans h.d k.d⟩
theorem Lays.alloc {A B : World} (h : Lays A B) (o : Obj) : Lays A (B.alloc o) := ⟨h.b.alloc h.b.size o, h.d⟩
theorem Lays.drewN {A B : World} (h : Lays A B) (k : Nat) : Lays A (B.drewN k) := ⟨below_drewN h.b k, Nat.le_trans h.d (Nat.le_add_right _ _)⟩
theorem Lays.drew {A B : World} (h : Lays A B) : Lays A B.drew := ⟨h.b.drew, Nat.le_trans h.d (Nat.le_succ _)⟩
theorem Lays.eq {W W' : World} (h : Lays W W') : ∃ q os, W' = Sort.grow (W.drewN q) os := by
  obtain ⟨⟨ho, ht, hp, hs, hb⟩, hd⟩ := h
  refine ⟨W'.drawn - W.drawn, W'.heap.extract W.heap.size W'.heap.size, ?_⟩
  obtain ⟨hp', tp', dr', os', out'⟩ := W'
  obtain ⟨hp0, tp0, dr0, os0, out0⟩ := W
  simp only at ho ht hp hs hb hd
  subst ho ht hp
  simp only [Sort.grow, World.drewN, World.mk.injEq, and_true, true_and]
  refine ⟨?_, by omega⟩
  apply Array.ext_getElem?
  intro i
  rw [Array.getElem?_append]
  by_cases hi : i < hp0.size
  · rw [if_pos hi]; exact hb i hi
  · rw [if_neg hi, Array.getElem?_extract]
    by_cases hi2 : i < hp'.size
    · rw [if_pos (by omega)]; congr 1; omega
    · rw [if_neg (by omega), Array.getElem?_eq_none (by omega)]

def sgnI (a b : Int) : Int := if a < b then -1 else if b < a then 1 else 0

set_option maxHeartbeats 400000 in
theorem compare_any (a b : Int) (w : World) :
    Calls Tryz.prog 92 #[.int .i64 a, .int .i64 b] w fun e w' => e = .returned (.int .i64 (sgnI a b)) ∧ w = w' := by
  rcases Int.lt_trichotomy a b with h | h | h
  · rw [show sgnI a b = -1 by simp [sgnI, h]]
    go_enter Tryz.func92, Tryz.ntmps92
    go_wp2
    go_ret
    exact ⟨rfl, rfl⟩
  · subst h
    rw [show sgnI a a = 0 by simp [sgnI]]
    go_enter Tryz.func92, Tryz.ntmps92
    go_wp2
    go_ret
    exact ⟨rfl, rfl⟩
  · have h' : ¬ a < b := by omega
    rw [show sgnI a b = 1 by simp [sgnI, h, h']]
    go_enter Tryz.func92, Tryz.ntmps92
    go_wp2
    go_ret
    exact ⟨rfl, rfl⟩

set_option maxHeartbeats 400000 in
theorem valid_lays (n d : Int) (w : World) (n0 : -9223372036854775808 ≤ n) (n1 : n ≤ 9223372036854775807) (d0 : -9223372036854775808 ≤ d) (d1 : d ≤ 9223372036854775807) :
    Calls Tryz.prog 81 #[.agg #[.int .i64 n, .int .i64 d]] w fun e w' => e = .returned (.bool (vldB n d)) ∧ Lays w w' := by
  by_cases h1 : d < 1
  · rw [vld_no (by omega)]
    go_enter Tryz.func81, Tryz.ntmps81
    go_wp2
    go_ret
    exact ⟨rfl, (Lays.refl _).alloc _⟩
  by_cases h2 : d > 1073741824
  · rw [vld_no (by omega)]
    go_enter Tryz.func81, Tryz.ntmps81
    go_wp2
    go_ret
    exact ⟨rfl, (Lays.refl _).alloc _⟩
  by_cases h3 : n < -1073741824
  · rw [vld_no (by omega)]
    go_enter Tryz.func81, Tryz.ntmps81
    go_wp2
    go_ret
    exact ⟨rfl, (Lays.refl _).alloc _⟩
  by_cases h4 : n > 1073741824
  · rw [vld_no (by omega)]
    go_enter Tryz.func81, Tryz.ntmps81
    go_wp2
    go_ret
    exact ⟨rfl, (Lays.refl _).alloc _⟩
  rw [vld_in (by omega) (by omega) (by omega) (by omega)]
  go_enter Tryz.func81, Tryz.ntmps81
  go_wp2_with fail
  all_goals
    refine (gcdI _ _ _ (by omega) (by omega) (by omega) (by omega)).mono ?_
    rintro e w1 ⟨rfl, j, rfl⟩
    go_wp2
    go_ret
    refine ⟨?_, ((Lays.refl _).alloc _).drewN _⟩
    exact ret_bool (by rw [Bool.eq_iff_iff]; simp; omega)

/-- What Cmp returns. -/
def cmpN (a b c d : Int) : Int := if vldB a b && vldB c d then sgnI (a * d) (c * b) else 0

set_option maxHeartbeats 1000000 in
theorem cmp_lays (a b c d : Int) (w : World) (a0 : -9223372036854775808 ≤ a) (a1 : a ≤ 9223372036854775807) (b0 : -9223372036854775808 ≤ b) (b1 : b ≤ 9223372036854775807) (c0 : -9223372036854775808 ≤ c) (c1 : c ≤ 9223372036854775807) (d0 : -9223372036854775808 ≤ d) (d1 : d ≤ 9223372036854775807) :
    Calls Tryz.prog 44 #[.agg #[.int .i64 a, .int .i64 b], .agg #[.int .i64 c, .int .i64 d]] w fun e w' => e = .returned (.int .i64 (cmpN a b c d)) ∧ Lays w w' := by
  unfold cmpN
  have HW0 : Lays w ((w.alloc (.cells #[.int .i64 a, .int .i64 b] 25)).alloc (.cells #[.int .i64 c, .int .i64 d] 25)) := ((Lays.refl _).alloc _).alloc _
  cases hx : vldB a b
  · have Hx := Lib.hid hx
    clear hx
    simp only [Bool.false_and, Bool.false_eq_true, if_false]
    go_enter Tryz.func44, Tryz.ntmps44
    go_wp2_with fail
    refine (valid_lays a b _ a0 a1 b0 b1).mono ?_; rintro e w1 ⟨rfl, hb1⟩; rw [Hx.out]
    go_wp2
    go_ret
    exact ⟨rfl, HW0.trans hb1⟩
  obtain ⟨b2, b3, a2, a3, -⟩ := vld_bd hx
  have Hx := Lib.hid hx
  clear hx
  cases hy : vldB c d
  · have Hy := Lib.hid hy
    clear hy
    simp only [Bool.and_false, Bool.false_eq_true, if_false]
    go_enter Tryz.func44, Tryz.ntmps44
    go_wp2_with fail
    refine (valid_lays a b _ a0 a1 b0 b1).mono ?_; rintro e w1 ⟨rfl, hb1⟩; rw [Hx.out]
    obtain ⟨hc, hf⟩ := bcell hb1.b
    simp only [World.size_alloc] at hc hf
    go_wp2_with fail
    refine (valid_lays c d _ c0 c1 d0 d1).mono ?_; rintro e w2 ⟨rfl, hb2⟩; rw [Hy.out]
    go_wp2
    go_ret
    exact ⟨rfl, (HW0.trans hb1).trans hb2⟩
  obtain ⟨d2, d3, c2, c3, -⟩ := vld_bd hy
  have Hy := Lib.hid hy
  clear hy
  have h1 := mulb a2 a3 (show -1073741824 ≤ d by omega) d3
  have h2 := mulb c2 c3 (show -1073741824 ≤ b by omega) b3
  simp only [Bool.and_self, if_true]
  obtain ⟨g, Hg⟩ : ∃ g, Hid (g = sgnI (a * d) (c * b)) := ⟨_, rfl⟩
  rw [← Hg.out]
  go_enter Tryz.func44, Tryz.ntmps44
  go_wp2_with fail
  refine (valid_lays a b _ a0 a1 b0 b1).mono ?_; rintro e w1 ⟨rfl, hb1⟩; rw [Hx.out]
  obtain ⟨hc, hf⟩ := bcell hb1.b
  simp only [World.size_alloc] at hc hf
  go_wp2_with fail
  refine (valid_lays c d _ c0 c1 d0 d1).mono ?_; rintro e w2 ⟨rfl, hb2⟩; rw [Hy.out]
  have hb3 := hb1.trans hb2
  clear hc hf hb1
  obtain ⟨hc, hf⟩ := bcell hb3.b
  simp only [World.size_alloc] at hc hf
  go_wp2_with fail
  refine (compare_any _ _ _).mono ?_; rintro e w3 ⟨rfl, rfl⟩; rw [← Hg.out]
  go_wp2
  go_ret
  exact ⟨rfl, HW0.trans hb3⟩
theorem cmp_any (a b c d : Int) (w : World) (a0 : -9223372036854775808 ≤ a) (a1 : a ≤ 9223372036854775807) (b0 : -9223372036854775808 ≤ b) (b1 : b ≤ 9223372036854775807) (c0 : -9223372036854775808 ≤ c) (c1 : c ≤ 9223372036854775807) (d0 : -9223372036854775808 ≤ d) (d1 : d ≤ 9223372036854775807) :
    Calls Tryz.prog 44 #[.agg #[.int .i64 a, .int .i64 b], .agg #[.int .i64 c, .int .i64 d]] w fun e w' => e = .returned (.int .i64 (cmpN a b c d)) ∧ Below w.heap.size w w' :=
  (cmp_lays a b c d w a0 a1 b0 b1 c0 c1 d0 d1).mono fun _ _ ⟨h, k⟩ => ⟨h, k.b⟩
end Go.Proofs.YtbncfknjgldcbaaGreat
/- The numbers of rat as the rational numbers that they stand for: plain mathematics over mkN, vldB and their kin. -/
namespace Go.Proofs.YtbncfknjgldcbaaGreat.Num
open Go.RowKit

def Bd (r : Rat) (A B : Nat) : Prop := r.num.natAbs ≤ A ∧ r.den ≤ B
/-- The result for a value: the number, or the error. -/
def ofR (r : Rat) : Int × Int × Int := if r.num.natAbs ≤ 1073741824 ∧ r.den ≤ 1073741824 then (r.num, (r.den : Int), 0) else (0, 0, 3)
theorem ofR_fits {r : Rat} {A B : Nat} (h : Bd r A B) (ha : A ≤ 1073741824) (hb : B ≤ 1073741824) : ofR r = (r.num, (r.den : Int), 0) := by
  unfold ofR; rw [if_pos ⟨Nat.le_trans h.1 ha, Nat.le_trans h.2 hb⟩]
theorem vld_r {r : Rat} {A B : Nat} (h : Bd r A B) (ha : A ≤ 1073741824) (hb : B ≤ 1073741824) : vldB r.num r.den = true := by
  have h1 := h.1
  have h2 := h.2
  have h3 := r.den_pos
  rw [vld_in (by omega) (by omega) (by omega) (by omega)]
  have h4 : Int.gcd r.num r.den = 1 := by
    have := r.reduced
    unfold Nat.Coprime at this
    simpa [Int.gcd] using this
  rw [h4]; rfl
theorem r_of_vld {n d : Int} (h : vldB n d = true) : ∃ r : Rat, r.num = n ∧ (r.den : Int) = d ∧ Bd r 1073741824 1073741824 := by
  obtain ⟨d0, d1, n0, n1, hg⟩ := vld_bd h
  refine ⟨⟨n, d.toNat, by omega, ?_⟩, rfl, by simp; omega, ?_⟩
  · unfold Nat.Coprime
    have : Int.gcd n d = Nat.gcd n.natAbs d.toNat := by unfold Int.gcd; rw [show d.natAbs = d.toNat by omega]
    omega
  · constructor
    · show n.natAbs ≤ _; omega
    · show d.toNat ≤ _; omega

theorem mk_ofR (p q : Int) (hq : q ≠ 0) : mkN p q = ofR (Rat.divInt p q) := by
  have hg0 : 0 < Int.gcd p q := Int.gcd_pos_of_ne_zero_right p hq
  have hn : (Rat.divInt p q).num.natAbs = p.natAbs / Int.gcd p q := by
    rw [Rat.num_divInt, Int.gcd_comm q p, Int.natAbs_ediv_of_dvd (Int.dvd_trans (Int.gcd_dvd_left p q) (Int.dvd_mul_left _ _)), Int.natAbs_mul, Int.natAbs_sign_of_ne_zero hq, Nat.one_mul]; rfl
  have hd : (Rat.divInt p q).den = q.natAbs / Int.gcd p q := by
    rw [Rat.den_divInt, if_neg hq, Int.gcd_comm q p]
  by_cases hf : p.natAbs / Int.gcd p q ≤ 1073741824 ∧ q.natAbs / Int.gcd p q ≤ 1073741824
  · rw [mk_fits hq rfl rfl (by omega) (by omega)]
    unfold ofR
    rw [hn, hd, if_pos hf, Rat.num_divInt, Int.gcd_comm q p]
    obtain ⟨m, hm⟩ := Int.gcd_dvd_left p q
    have hgi : (0 : Int) < (Int.gcd p q : Nat) := by omega
    generalize Int.gcd p q = g at hm hgi ⊢
    have e1 : q.sign * p / (g : Int) = q.sign * m := by rw [hm, ← Int.mul_assoc, Int.mul_comm q.sign, Int.mul_assoc, Int.mul_ediv_cancel_left _ (by omega)]
    have e2 : (p.natAbs : Int) / (g : Int) = m.natAbs := by rw [hm, Int.natAbs_mul, Int.natCast_mul, show (((g : Int).natAbs : Nat) : Int) = g by omega, Int.mul_ediv_cancel_left _ (by omega)]
    have e3 : decide (p < 0) = decide (m < 0) := by
      rw [Bool.eq_iff_iff]; simp only [decide_eq_true_eq]; rw [hm]
      constructor
      · intro h; refine Int.not_le.1 fun h2 => ?_; have := Int.mul_nonneg (Int.le_of_lt hgi) h2; omega
      · intro h; exact Int.mul_neg_of_pos_of_neg hgi h
    rw [e1, e2, e3]
    simp only [Prod.mk.injEq, and_true]
    refine ⟨?_, by omega⟩
    rcases Int.lt_trichotomy q 0 with h | h | h
    · rw [Int.sign_eq_neg_one_of_neg h]
      by_cases hm0 : m < 0 <;> simp [h, hm0] <;> omega
    · omega
    · rw [Int.sign_eq_one_of_pos h]
      have h' : ¬ q < 0 := by omega
      by_cases hm0 : m < 0 <;> simp [h', hm0] <;> omega
  · rw [mk_long hq rfl rfl (by omega)]
    unfold ofR
    rw [hn, hd, if_neg hf]

theorem bd_divInt {p q : Int} {A B : Nat} (hq : 0 < q) (hp : p.natAbs ≤ A) (hb : q.natAbs ≤ B) : Bd (Rat.divInt p q) A B := by
  have hg0 : 0 < Int.gcd p q := Int.gcd_pos_of_ne_zero_right p (by omega)
  constructor
  · rw [Rat.num_divInt, Int.gcd_comm q p, Int.natAbs_ediv_of_dvd (Int.dvd_trans (Int.gcd_dvd_left p q) (Int.dvd_mul_left _ _)), Int.natAbs_mul, Int.natAbs_sign_of_ne_zero (by omega), Nat.one_mul]
    exact Nat.le_trans (Nat.div_le_self _ _) hp
  · rw [Rat.den_divInt, if_neg (by omega)]
    exact Nat.le_trans (Nat.div_le_self _ _) hb
theorem add_divInt (r s : Rat) : r + s = Rat.divInt (r.num * s.den + s.num * r.den) (r.den * s.den) := by
  rw [Rat.add_def', ← Rat.divInt_ofNat]; simp
theorem sub_divInt (r s : Rat) : r - s = Rat.divInt (r.num * s.den - s.num * r.den) (r.den * s.den) := by
  rw [Rat.sub_def', ← Rat.divInt_ofNat]; simp
theorem mul_divInt (r s : Rat) : r * s = Rat.divInt (r.num * s.num) (r.den * s.den) := by
  rw [Rat.mul_def', ← Rat.divInt_ofNat]; simp
theorem div_divInt (r s : Rat) : r / s = Rat.divInt (r.num * s.den) (r.den * s.num) := by
  rw [Rat.div_def]
  have h1 := Rat.num_divInt_den r
  rw [Rat.inv_def s]
  conv => lhs; lhs; rw [← h1]
  rw [Rat.divInt_mul_divInt]
theorem den_ne (r s : Rat) : (r.den : Int) * s.den ≠ 0 := Int.mul_ne_zero (by have := r.den_pos; omega) (by have := s.den_pos; omega)
theorem den_pos2 (r s : Rat) : 0 < (r.den : Int) * s.den := Int.mul_pos (by have := r.den_pos; omega) (by have := s.den_pos; omega)

section
variable {r s : Rat} (hr : Bd r 1073741824 1073741824) (hs : Bd s 1073741824 1073741824)
include hr hs
theorem addN_r : addN r.num r.den s.num s.den = ofR (r + s) := by
  unfold addN
  rw [vld_r hr (Nat.le_refl _) (Nat.le_refl _), vld_r hs (Nat.le_refl _) (Nat.le_refl _)]
  simp only [Bool.and_self, if_true]
  rw [mk_ofR _ _ (den_ne r s), add_divInt]
theorem subN_r : subN r.num r.den s.num s.den = ofR (r - s) := by
  unfold subN
  rw [vld_r hr (Nat.le_refl _) (Nat.le_refl _), vld_r hs (Nat.le_refl _) (Nat.le_refl _)]
  simp only [Bool.and_self, if_true]
  rw [mk_ofR _ _ (den_ne r s), sub_divInt]
theorem mulN_r : mulN r.num r.den s.num s.den = ofR (r * s) := by
  unfold mulN
  rw [vld_r hr (Nat.le_refl _) (Nat.le_refl _), vld_r hs (Nat.le_refl _) (Nat.le_refl _)]
  simp only [Bool.and_self, if_true]
  rw [mk_ofR _ _ (den_ne r s), mul_divInt]
theorem divN_r (h0 : s ≠ 0) : divN r.num r.den s.num s.den = ofR (r / s) := by
  unfold divN
  rw [vld_r hr (Nat.le_refl _) (Nat.le_refl _), vld_r hs (Nat.le_refl _) (Nat.le_refl _)]
  simp only [Bool.and_self, if_true]
  rw [mk_ofR _ _ (Int.mul_ne_zero (by have := r.den_pos; omega) (fun h => h0 (Rat.num_eq_zero.1 h))), div_divInt]
theorem cmpN_r : cmpN r.num r.den s.num s.den = if r < s then -1 else if s < r then 1 else 0 := by
  unfold cmpN
  rw [vld_r hr (Nat.le_refl _) (Nat.le_refl _), vld_r hs (Nat.le_refl _) (Nat.le_refl _)]
  simp only [Bool.and_self, if_true]
  unfold sgnI
  simp only [Rat.lt_iff]
end

theorem bd_le {r : Rat} {A B C D : Nat} (h : Bd r A B) (ha : A ≤ C) (hb : B ≤ D) : Bd r C D := ⟨Nat.le_trans h.1 ha, Nat.le_trans h.2 hb⟩
theorem bd_add {r s : Rat} {A B C D : Nat} (hr : Bd r A B) (hs : Bd s C D) : Bd (r + s) (A * D + C * B) (B * D) := by
  rw [add_divInt]
  refine bd_divInt (den_pos2 r s) ?_ ?_
  · refine Nat.le_trans (Int.natAbs_add_le _ _) ?_
    rw [Int.natAbs_mul, Int.natAbs_mul]
    exact Nat.add_le_add (Nat.mul_le_mul hr.1 hs.2) (Nat.mul_le_mul hs.1 hr.2)
  · rw [Int.natAbs_mul]; exact Nat.mul_le_mul hr.2 hs.2
theorem bd_sub {r s : Rat} {A B C D : Nat} (hr : Bd r A B) (hs : Bd s C D) : Bd (r - s) (A * D + C * B) (B * D) := by
  rw [sub_divInt]
  refine bd_divInt (den_pos2 r s) ?_ ?_
  · refine Nat.le_trans (Int.natAbs_sub_le _ _) ?_
    rw [Int.natAbs_mul, Int.natAbs_mul]
    exact Nat.add_le_add (Nat.mul_le_mul hr.1 hs.2) (Nat.mul_le_mul hs.1 hr.2)
  · rw [Int.natAbs_mul]; exact Nat.mul_le_mul hr.2 hs.2
theorem bd_mul {r s : Rat} {A B C D : Nat} (hr : Bd r A B) (hs : Bd s C D) : Bd (r * s) (A * C) (B * D) := by
  rw [mul_divInt]
  refine bd_divInt (den_pos2 r s) ?_ ?_
  · rw [Int.natAbs_mul]; exact Nat.mul_le_mul hr.1 hs.1
  · rw [Int.natAbs_mul]; exact Nat.mul_le_mul hr.2 hs.2
end Go.Proofs.YtbncfknjgldcbaaGreat.Num
/- Numbers that a curve may hold, as rational numbers; the contracts of rat's operations at them, of curve.amount, curve.value, curve.add and curve.meeting. -/
namespace Go.Proofs.YtbncfknjgldcbaaGreat
open Go.RowKit Go.Joins Num

theorem below_allocs1 {B : Nat} {w X Y : World} {o : Obj} (hB : Below B w X) (h : B ≤ X.heap.size) (hb : Below (X.alloc o).heap.size (X.alloc o) Y) : Below B w Y := (hB.alloc h o).trans (hb.mono (by simp; omega))
/-- A block of two ints, a struct of the call's own. -/
structure Has (W : World) (b : Nat) (n d : Int) : Prop where
  lt : b < W.heap.size
  c0 : W.cell? ⟨b, 0, none⟩ = some (.int .i64 n)
  c1 : W.cell? ⟨b, 1, none⟩ = some (.int .i64 d)
theorem Has.keep {W W' : World} {b : Nat} {n d : Int} (h : Has W b n d) (hb : Below W.heap.size W W') : Has W' b n d :=
  ⟨Nat.lt_of_lt_of_le h.lt hb.size, (hb.cell (p := ⟨b, 0, none⟩) h.lt).trans h.c0, (hb.cell (p := ⟨b, 1, none⟩) h.lt).trans h.c1⟩
theorem Has.new (W : World) (n d : Int) (t : TypeId) : Has (W.alloc (.cells #[.int .i64 n, .int .i64 d] t)) W.heap.size n d :=
  ⟨by simp, (cell_of_block (MapKept.heap_alloc W _).1 0).trans rfl, (cell_of_block (MapKept.heap_alloc W _).1 1).trans rfl⟩
theorem Has.alloc {W : World} {b : Nat} {n d : Int} (h : Has W b n d) (o : Obj) : Has (W.alloc o) b n d := h.keep ((Below.refl _ _).alloc (Nat.le_refl _) _)
/-- A valid number. -/
abbrev Fit (r : Rat) : Prop := Bd r 1073741824 1073741824
instance (r : Rat) (A B : Nat) : Decidable (Bd r A B) := inferInstanceAs (Decidable (_ ∧ _))
theorem ofR_yes {r : Rat} (h : Fit r) : ofR r = (r.num, (r.den : Int), 0) := ofR_fits h (Nat.le_refl _) (Nat.le_refl _)
theorem ofR_no {r : Rat} (h : ¬ Fit r) : ofR r = (0, 0, 3) := if_neg h
theorem fit_bd {r : Rat} (h : Fit r) : -1073741824 ≤ r.num ∧ r.num ≤ 1073741824 ∧ 1 ≤ (r.den : Int) ∧ (r.den : Int) ≤ 1073741824 := by
  have h1 := h.1
  have h2 := h.2
  have h3 := r.den_pos
  omega
theorem fit_vld {r : Rat} (h : Fit r) : vldB r.num r.den = true := vld_r h (Nat.le_refl _) (Nat.le_refl _)
def cmpQ (r s : Rat) : Int := if r < s then -1 else if s < r then 1 else 0

section
variable {r s : Rat} (hr : Fit r) (hs : Fit s) (w : World)
include hr hs
theorem add_r : Calls Tryz.prog 45 #[.agg #[.int .i64 r.num, .int .i64 r.den], .agg #[.int .i64 s.num, .int .i64 s.den]] w fun e w' => e = .returned (ratV (ofR (r + s))) ∧ Below w.heap.size w w' := by
  have h1 := fit_bd hr
  have h2 := fit_bd hs
  rw [← addN_r hr hs]
  exact add_any _ _ _ _ w (by omega) (by omega) (by omega) (by omega) (by omega) (by omega) (by omega) (by omega)
theorem sub_r : Calls Tryz.prog 71 #[.agg #[.int .i64 r.num, .int .i64 r.den], .agg #[.int .i64 s.num, .int .i64 s.den]] w fun e w' => e = .returned (ratV (ofR (r - s))) ∧ Below w.heap.size w w' := by
  have h1 := fit_bd hr
  have h2 := fit_bd hs
  rw [← subN_r hr hs]
  exact sub_any _ _ _ _ w (by omega) (by omega) (by omega) (by omega) (by omega) (by omega) (by omega) (by omega)
theorem mul_r : Calls Tryz.prog 77 #[.agg #[.int .i64 r.num, .int .i64 r.den], .agg #[.int .i64 s.num, .int .i64 s.den]] w fun e w' => e = .returned (ratV (ofR (r * s))) ∧ Below w.heap.size w w' := by
  have h1 := fit_bd hr
  have h2 := fit_bd hs
  rw [← mulN_r hr hs]
  exact mul_any _ _ _ _ w (by omega) (by omega) (by omega) (by omega) (by omega) (by omega) (by omega) (by omega)
theorem div_r (h0 : s ≠ 0) : Calls Tryz.prog 70 #[.agg #[.int .i64 r.num, .int .i64 r.den], .agg #[.int .i64 s.num, .int .i64 s.den]] w fun e w' => e = .returned (ratV (ofR (r / s))) ∧ Below w.heap.size w w' := by
  have h1 := fit_bd hr
  have h2 := fit_bd hs
  rw [← divN_r hr hs h0]
  exact div_any _ _ _ _ w (by omega) (by omega) (by omega) (by omega) (by omega) (by omega) (by omega) (by omega)
theorem cmp_r : Calls Tryz.prog 44 #[.agg #[.int .i64 r.num, .int .i64 r.den], .agg #[.int .i64 s.num, .int .i64 s.den]] w fun e w' => e = .returned (.int .i64 (cmpQ r s)) ∧ Lays w w' := by
  have h1 := fit_bd hr
  have h2 := fit_bd hs
  unfold cmpQ
  rw [← cmpN_r hr hs]
  exact cmp_lays _ _ _ _ w (by omega) (by omega) (by omega) (by omega) (by omega) (by omega) (by omega) (by omega)
end

/-- When a number may stand in a curve. -/
def amtB (n d : Int) : Bool := decide (0 ≤ n) && vldB n d
set_option maxHeartbeats 400000 in
theorem amount_any (n d : Int) (w : World) (n0 : -9223372036854775808 ≤ n) (n1 : n ≤ 9223372036854775807) (d0 : -9223372036854775808 ≤ d) (d1 : d ≤ 9223372036854775807) :
    Calls Tryz.prog 49 #[.agg #[.int .i64 n, .int .i64 d]] w fun e w' => e = .returned (.bool (amtB n d)) ∧ Lays w w' := by
  unfold amtB
  by_cases h : 0 ≤ n
  · obtain ⟨v, Hv⟩ : ∃ v, Hid (v = vldB n d) := ⟨_, rfl⟩
    rw [← Hv.out]
    simp only [h, decide_true, Bool.true_and]
    go_enter Tryz.func49, Tryz.ntmps49
    go_wp2_with fail
    refine (valid_lays n d _ n0 n1 d0 d1).mono ?_; rintro e w1 ⟨rfl, hb1⟩; rw [← Hv.out]
    go_wp2
    go_ret
    exact ⟨rfl, ((Lays.refl _).alloc _).trans hb1⟩
  · simp only [h, decide_false, Bool.false_and]
    have h' : n < 0 := by omega
    go_enter Tryz.func49, Tryz.ntmps49
    go_wp2
    go_ret
    exact ⟨rfl, (Lays.refl _).alloc _⟩

/-- The value of a bucket: the number, or the error. -/
def valV (b r t : Rat) : Int × Int × Int := if Fit (r * t) then ofR (b + r * t) else (0, 0, 3)
set_option maxHeartbeats 1000000 in
theorem value_r {b r t : Rat} (hb : Fit b) (hr : Fit r) (ht : Fit t) (w : World) :
    Calls Tryz.prog 50 #[.agg #[.int .i64 b.num, .int .i64 b.den, .int .i64 r.num, .int .i64 r.den], .agg #[.int .i64 t.num, .int .i64 t.den]] w fun e w' => e = .returned (ratV (valV b r t)) ∧ Below w.heap.size w w' := by
  unfold valV
  have HM : ∀ W : World, _ := fun W => mul_r hr ht W
  by_cases hm : Fit (r * t)
  · rw [if_pos hm]
    rw [ofR_yes hm] at HM
    have HA : ∀ W : World, _ := fun W => add_r hb hm W
    have HM := Lib.hid HM
    have HA := Lib.hid HA
    generalize hq : ofR (b + r * t) = q at HA ⊢
    obtain ⟨q1, q2, q3⟩ := q
    clear hq hm
    generalize (r * t).num = m1 at HM HA
    generalize ((r * t).den : Int) = m2 at HM HA
    simp only [ratV] at HM HA ⊢
    go_enter Tryz.func50, Tryz.ntmps50
    go_wp2_with fail
    refine (HM.out _).mono ?_; rintro e w1 ⟨rfl, hb1⟩
    obtain ⟨hc, hf⟩ := bcell hb1
    have hz := hb1.size
    simp only [World.size_alloc] at hc hf hz
    have k0 : w.heap.size < w1.heap.size := by omega
    have k1 : w.heap.size + 1 < w1.heap.size := by omega
    go_wp2_with fail
    refine (HA.out _).mono ?_; rintro e w2 ⟨rfl, hb2⟩
    replace hb2 := below_allocs1 hb1 hb1.size hb2
    clear hc hf hb1 hz k0 k1
    obtain ⟨hc, hf⟩ := bcell hb2
    have hz := hb2.size
    simp only [World.size_alloc] at hc hf hz
    have hB : Below w.heap.size w w2 := ((((Below.refl _ w).alloc (Nat.le_refl _) _).alloc (by simp) _).alloc (by simp; omega) _).trans (hb2.mono (by simp; omega))
    go_wp2
    refine bodyPost_ret (v := ratV (q1, q2, q3)) (by simp [results, Tryz.results50, go_sem, ratV, hc]) rfl ⟨rfl, ?_⟩
    (have hBs := hB.size; (try simp only [World.size_alloc] at hBs); repeat' (first | (with_reducible exact hB) | (with_reducible exact hBs) | (with_reducible refine Below.drew ?_) | (with_reducible refine below_drewN ?_ _) | (with_reducible refine Below.setCell ?_ ?_ _) | (with_reducible refine Below.alloc ?_ ?_ _) | go_size | omega | (simp; omega)))
  · rw [if_neg hm]
    rw [ofR_no hm] at HM
    have HM := Lib.hid HM
    simp only [ratV] at HM ⊢
    go_enter Tryz.func50, Tryz.ntmps50
    go_wp2_with fail
    refine (HM.out _).mono ?_; rintro e w1 ⟨rfl, hb1⟩
    obtain ⟨hc, hf⟩ := bcell hb1
    have hz := hb1.size
    simp only [World.size_alloc] at hc hf hz
    have k2 : w.heap.size + 1 + 1 < w1.heap.size := by omega
    have hB : Below w.heap.size w w1 := ((((Below.refl _ w).alloc (Nat.le_refl _) _).alloc (by simp) _).alloc (by simp; omega) _).trans (hb1.mono (by simp; omega))
    go_wp2
    refine bodyPost_ret (v := ratV (0, 0, 3)) (by simp [results, Tryz.results50, go_sem, ratV, hc, k2]) rfl ⟨rfl, ?_⟩
    (have hBs := hB.size; (try simp only [World.size_alloc] at hBs); repeat' (first | (with_reducible exact hB) | (with_reducible exact hBs) | (with_reducible refine Below.drew ?_) | (with_reducible refine below_drewN ?_ _) | (with_reducible refine Below.setCell ?_ ?_ _) | (with_reducible refine Below.alloc ?_ ?_ _) | go_size | omega | (simp; omega)))

/-- What curve.add returns: the bucket and the error. -/
def buckV (x : (Int × Int × Int × Int) × Int) : Value := .tuple #[.agg #[.int .i64 x.1.1, .int .i64 x.1.2.1, .int .i64 x.1.2.2.1, .int .i64 x.1.2.2.2], .int .i64 x.2]
def addV (b r c s : Rat) : (Int × Int × Int × Int) × Int := if Fit (b + c) ∧ Fit (r + s) then (((b + c).num, ((b + c).den : Int), (r + s).num, ((r + s).den : Int)), 0) else ((0, 0, 0, 0), 3)
set_option maxHeartbeats 2000000 in
theorem add_b {b r c s : Rat} (hb : Fit b) (hr : Fit r) (hc : Fit c) (hs : Fit s) (w : World) :
    Calls Tryz.prog 59 #[.agg #[.int .i64 b.num, .int .i64 b.den, .int .i64 r.num, .int .i64 r.den], .agg #[.int .i64 c.num, .int .i64 c.den, .int .i64 s.num, .int .i64 s.den]] w fun e w' => e = .returned (buckV (addV b r c s)) ∧ Below w.heap.size w w' := by
  unfold addV
  have HM : ∀ W : World, _ := fun W => add_r hb hc W
  have HA : ∀ W : World, _ := fun W => add_r hr hs W
  by_cases hm : Fit (b + c)
  · rw [ofR_yes hm] at HM
    generalize hm1 : (b + c).num = m1 at HM ⊢
    generalize hm2 : ((b + c).den : Int) = m2 at HM ⊢
    simp only [hm, true_and]
    clear hm1 hm2
    by_cases ha : Fit (r + s)
    · rw [ofR_yes ha] at HA
      rw [if_pos ha]
      generalize (r + s).num = q1 at HA ⊢
      generalize ((r + s).den : Int) = q2 at HA ⊢
      have HM := Lib.hid HM
      have HA := Lib.hid HA
      clear hm ha
      simp only [ratV, buckV] at HM HA ⊢
      go_enter Tryz.func59, Tryz.ntmps59
      go_wp2_with fail
      refine (HM.out _).mono ?_; rintro e w1 ⟨rfl, hb1⟩
      obtain ⟨hc, hf⟩ := bcell hb1
      have hz := hb1.size
      simp only [World.size_alloc] at hc hf hz
      have k0 : w.heap.size < w1.heap.size := by omega
      have k1 : w.heap.size + 1 < w1.heap.size := by omega
      go_wp2_with fail
      refine (HA.out _).mono ?_; rintro e w2 ⟨rfl, hb2⟩
      have hx := (Has.new w1 m1 m2 25).keep hb2
      replace hb2 := below_allocs1 hb1 hb1.size hb2
      have kk := hb2.size
      clear hc hf hz k0 k1
      obtain ⟨hc, hf⟩ := bcell hb2
      have hz := hb2.size
      simp only [World.size_alloc] at hc hf hz
      have hB : Below w.heap.size w w2 := ((((Below.refl _ w).alloc (Nat.le_refl _) _).alloc (by simp) _).alloc (by simp; omega) _).trans (hb2.mono (by simp; omega))
      have k2 : w.heap.size + 1 + 1 < w2.heap.size := by omega
      have x0 := (hx.alloc (.cells #[.int .i64 q1, .int .i64 q2] 25)).c0
      have x1 := (hx.alloc (.cells #[.int .i64 q1, .int .i64 q2] 25)).c1
      clear hb1 kk
      generalize w1.heap.size = b1 at *
      go_wp2
      refine bodyPost_ret (v := buckV ((m1, m2, q1, q2), 0)) (by simp [results, Tryz.results59, go_sem, buckV, hc, k2]) rfl ⟨rfl, ?_⟩
      (have hBs := hB.size; (try simp only [World.size_alloc] at hBs); repeat' (first | (with_reducible exact hB) | (with_reducible exact hBs) | (with_reducible refine Below.drew ?_) | (with_reducible refine below_drewN ?_ _) | (with_reducible refine Below.setCell ?_ ?_ _) | (with_reducible refine Below.alloc ?_ ?_ _) | go_size | omega | (simp; omega)))
    · rw [ofR_no ha] at HA
      rw [if_neg ha]
      have HM := Lib.hid HM
      have HA := Lib.hid HA
      clear hm ha
      simp only [ratV, buckV] at HM HA ⊢
      go_enter Tryz.func59, Tryz.ntmps59
      go_wp2_with fail
      refine (HM.out _).mono ?_; rintro e w1 ⟨rfl, hb1⟩
      obtain ⟨hc, hf⟩ := bcell hb1
      have hz := hb1.size
      simp only [World.size_alloc] at hc hf hz
      have k0 : w.heap.size < w1.heap.size := by omega
      have k1 : w.heap.size + 1 < w1.heap.size := by omega
      go_wp2_with fail
      refine (HA.out _).mono ?_; rintro e w2 ⟨rfl, hb2⟩
      replace hb2 := below_allocs1 hb1 hb1.size hb2
      clear hc hf hz k0 k1
      obtain ⟨hc, hf⟩ := bcell hb2
      have hz := hb2.size
      simp only [World.size_alloc] at hc hf hz
      have hB : Below w.heap.size w w2 := ((((Below.refl _ w).alloc (Nat.le_refl _) _).alloc (by simp) _).alloc (by simp; omega) _).trans (hb2.mono (by simp; omega))
      have k2 : w.heap.size + 1 + 1 < w2.heap.size := by omega
      clear hb1
      go_wp2
      refine bodyPost_ret (v := buckV ((0, 0, 0, 0), 3)) (by simp [results, Tryz.results59, go_sem, buckV, hc, k2]) rfl ⟨rfl, ?_⟩
      (have hBs := hB.size; (try simp only [World.size_alloc] at hBs); repeat' (first | (with_reducible exact hB) | (with_reducible exact hBs) | (with_reducible refine Below.drew ?_) | (with_reducible refine below_drewN ?_ _) | (with_reducible refine Below.setCell ?_ ?_ _) | (with_reducible refine Below.alloc ?_ ?_ _) | go_size | omega | (simp; omega)))
  · rw [ofR_no hm] at HM
    simp only [hm, false_and, if_false]
    have HM := Lib.hid HM
    clear hm HA
    simp only [ratV, buckV] at HM ⊢
    go_enter Tryz.func59, Tryz.ntmps59
    go_wp2_with fail
    refine (HM.out _).mono ?_; rintro e w1 ⟨rfl, hb1⟩
    obtain ⟨hc, hf⟩ := bcell hb1
    have hz := hb1.size
    simp only [World.size_alloc] at hc hf hz
    have hB : Below w.heap.size w w1 := ((((Below.refl _ w).alloc (Nat.le_refl _) _).alloc (by simp) _).alloc (by simp; omega) _).trans (hb1.mono (by simp; omega))
    have k2 : w.heap.size + 1 + 1 < w1.heap.size := by omega
    go_wp2
    refine bodyPost_ret (v := buckV ((0, 0, 0, 0), 3)) (by simp [results, Tryz.results59, go_sem, buckV, hc, k2]) rfl ⟨rfl, ?_⟩
    (have hBs := hB.size; (try simp only [World.size_alloc] at hBs); repeat' (first | (with_reducible exact hB) | (with_reducible exact hBs) | (with_reducible refine Below.drew ?_) | (with_reducible refine below_drewN ?_ _) | (with_reducible refine Below.setCell ?_ ?_ _) | (with_reducible refine Below.alloc ?_ ?_ _) | go_size | omega | (simp; omega)))

/-- What curve.meeting returns. -/
def meetV (b r c s : Rat) : Int × Int × Int := if Fit (c - b) ∧ Fit (r - s) then ofR ((c - b) / (r - s)) else (0, 0, 3)
set_option maxHeartbeats 2000000 in
theorem meeting_b {b r c s : Rat} (hb : Fit b) (hr : Fit r) (hc : Fit c) (hs : Fit s) (h0 : r - s ≠ 0) (w : World) :
    Calls Tryz.prog 63 #[.agg #[.int .i64 b.num, .int .i64 b.den, .int .i64 r.num, .int .i64 r.den], .agg #[.int .i64 c.num, .int .i64 c.den, .int .i64 s.num, .int .i64 s.den]] w fun e w' => e = .returned (ratV (meetV b r c s)) ∧ Below w.heap.size w w' := by
  unfold meetV
  have HM : ∀ W : World, _ := fun W => sub_r hc hb W
  have HA : ∀ W : World, _ := fun W => sub_r hr hs W
  by_cases hm : Fit (c - b)
  · simp only [hm, true_and]
    by_cases ha : Fit (r - s)
    · have HD : ∀ W : World, _ := fun W => div_r hm ha W h0
      rw [ofR_yes ha] at HA
      rw [ofR_yes hm] at HM
      rw [if_pos ha]
      generalize (r - s).num = q1 at HA HD
      generalize ((r - s).den : Int) = q2 at HA HD
      generalize (c - b).num = m1 at HM HD
      generalize ((c - b).den : Int) = m2 at HM HD
      generalize hq : ofR ((c - b) / (r - s)) = q at HD ⊢
      obtain ⟨p1, p2, p3⟩ := q
      have HM := Lib.hid HM
      have HA := Lib.hid HA
      have HD := Lib.hid HD
      clear hm ha hq h0
      simp only [ratV] at HM HA HD ⊢
      go_enter Tryz.func63, Tryz.ntmps63
      go_wp2_with fail
      refine (HM.out _).mono ?_; rintro e w1 ⟨rfl, hb1⟩
      obtain ⟨hc, hf⟩ := bcell hb1
      have hz := hb1.size
      simp only [World.size_alloc] at hc hf hz
      have k0 : w.heap.size < w1.heap.size := by omega
      have k1 : w.heap.size + 1 < w1.heap.size := by omega
      go_wp2_with fail
      refine (HA.out _).mono ?_; rintro e w2 ⟨rfl, hb2⟩
      have hx := (Has.new w1 m1 m2 25).keep hb2
      replace hb2 := below_allocs1 hb1 hb1.size hb2
      clear hc hf hz k0 k1
      have x0 := (hx.alloc (.cells #[.int .i64 q1, .int .i64 q2] 25)).c0
      have x1 := (hx.alloc (.cells #[.int .i64 q1, .int .i64 q2] 25)).c1
      clear hb1
      generalize w1.heap.size = b1 at *
      go_wp2_with fail
      refine (HD.out _).mono ?_; rintro e w3 ⟨rfl, hb3⟩
      replace hb3 := below_allocs1 hb2 hb2.size hb3
      clear hb2
      obtain ⟨hc, hf⟩ := bcell hb3
      have hz := hb3.size
      simp only [World.size_alloc] at hc hf hz
      have hB : Below w.heap.size w w3 := ((((Below.refl _ w).alloc (Nat.le_refl _) _).alloc (by simp) _).alloc (by simp; omega) _).trans (hb3.mono (by simp; omega))
      have k2 : w.heap.size + 1 + 1 < w3.heap.size := by omega
      go_wp2
      refine bodyPost_ret (v := ratV (p1, p2, p3)) (by simp [results, Tryz.results63, go_sem, ratV, hc]) rfl ⟨rfl, ?_⟩
      (have hBs := hB.size; (try simp only [World.size_alloc] at hBs); repeat' (first | (with_reducible exact hB) | (with_reducible exact hBs) | (with_reducible refine Below.drew ?_) | (with_reducible refine below_drewN ?_ _) | (with_reducible refine Below.setCell ?_ ?_ _) | (with_reducible refine Below.alloc ?_ ?_ _) | go_size | omega | (simp; omega)))
    · rw [ofR_no ha] at HA
      rw [ofR_yes hm] at HM
      rw [if_neg ha]
      have HM := Lib.hid HM
      have HA := Lib.hid HA
      clear hm ha h0
      simp only [ratV] at HM HA ⊢
      go_enter Tryz.func63, Tryz.ntmps63
      go_wp2_with fail
      refine (HM.out _).mono ?_; rintro e w1 ⟨rfl, hb1⟩
      obtain ⟨hc, hf⟩ := bcell hb1
      have hz := hb1.size
      simp only [World.size_alloc] at hc hf hz
      have k0 : w.heap.size < w1.heap.size := by omega
      have k1 : w.heap.size + 1 < w1.heap.size := by omega
      go_wp2_with fail
      refine (HA.out _).mono ?_; rintro e w2 ⟨rfl, hb2⟩
      replace hb2 := below_allocs1 hb1 hb1.size hb2
      clear hc hf hz k0 k1
      obtain ⟨hc, hf⟩ := bcell hb2
      have hz := hb2.size
      simp only [World.size_alloc] at hc hf hz
      have hB : Below w.heap.size w w2 := ((((Below.refl _ w).alloc (Nat.le_refl _) _).alloc (by simp) _).alloc (by simp; omega) _).trans (hb2.mono (by simp; omega))
      have k2 : w.heap.size + 1 + 1 < w2.heap.size := by omega
      clear hb1
      go_wp2
      refine bodyPost_ret (v := ratV (0, 0, 3)) (by simp [results, Tryz.results63, go_sem, ratV, hc, k2]) rfl ⟨rfl, ?_⟩
      (have hBs := hB.size; (try simp only [World.size_alloc] at hBs); repeat' (first | (with_reducible exact hB) | (with_reducible exact hBs) | (with_reducible refine Below.drew ?_) | (with_reducible refine below_drewN ?_ _) | (with_reducible refine Below.setCell ?_ ?_ _) | (with_reducible refine Below.alloc ?_ ?_ _) | go_size | omega | (simp; omega)))
  · rw [ofR_no hm] at HM
    simp only [hm, false_and, if_false]
    have HM := Lib.hid HM
    clear hm HA h0
    simp only [ratV] at HM ⊢
    go_enter Tryz.func63, Tryz.ntmps63
    go_wp2_with fail
    refine (HM.out _).mono ?_; rintro e w1 ⟨rfl, hb1⟩
    obtain ⟨hc, hf⟩ := bcell hb1
    have hz := hb1.size
    simp only [World.size_alloc] at hc hf hz
    have hB : Below w.heap.size w w1 := ((((Below.refl _ w).alloc (Nat.le_refl _) _).alloc (by simp) _).alloc (by simp; omega) _).trans (hb1.mono (by simp; omega))
    have k2 : w.heap.size + 1 + 1 < w1.heap.size := by omega
    go_wp2
    refine bodyPost_ret (v := ratV (0, 0, 3)) (by simp [results, Tryz.results63, go_sem, ratV, hc, k2]) rfl ⟨rfl, ?_⟩
    (have hBs := hB.size; (try simp only [World.size_alloc] at hBs); repeat' (first | (with_reducible exact hB) | (with_reducible exact hBs) | (with_reducible refine Below.drew ?_) | (with_reducible refine below_drewN ?_ _) | (with_reducible refine Below.setCell ?_ ?_ _) | (with_reducible refine Below.alloc ?_ ?_ _) | go_size | omega | (simp; omega)))
end Go.Proofs.YtbncfknjgldcbaaGreat
/- A region that draws its order and whose calls make memory, walked once: the worlds of a class that no callee leaves. -/
namespace Go.Proofs.YtbncfknjgldcbaaGreat
open Go.RowKit

/-- A world of the class (a type of its own, so that the walk's simp does not take it apart). -/
structure Wd (S : World → Prop) where
  val : World
  ok : S val

/-- The lexical walk over the class 'S', its worlds as a type of their own. -/
theorem wp_region_cls {P : Program} {id : Nat} {Q : Exit → Act → World → Prop} {a : Act} {w : World} {l : List Oper} (S : World → Prop) (hm : P.follows .mixedOrders = true) (hB : Region.lexB .any l.toArray = true) (hC : S w.drew)
    (h : wpQuiet P l.toArray (fun w' => ∃ s : Wd S, w' = s.val) (fun a' => ∀ w', (∃ s : Wd S, w' = s.val) → Q .normal a' w') l a) : (Code.region id l.toArray true).wp P Q a w :=
  wp_region_quiet (C := fun w' => ∃ s : Wd S, w' = s.val) hm hB ⟨⟨_, hC⟩, rfl⟩ (by simpa using h)

/-- At a call: the callee leaves what was there alone, and the class is closed under that. -/
theorem Calls.cls {P : Program} {f : FuncId} {args : Array Value} {v : Value} {S : World → Prop} (hS : ∀ W W' : World, S W → Below W.heap.size W W' → S W') {s : Wd S}
    (h : Calls P f args s.val fun e w' => e = .returned v ∧ Below s.val.heap.size s.val w') : Calls P f args s.val fun e w'' => e = .returned v ∧ ∃ s' : Wd S, w'' = s'.val :=
  h.mono fun _ _ ⟨he, hb⟩ => ⟨he, ⟨⟨_, hS _ _ s.ok hb⟩, rfl⟩⟩

/-- The worlds that have only grown from W0. -/
def Gr (W0 : World) : World → Prop := fun W => Below W0.heap.size W0 W
theorem Gr.start (W0 : World) : Gr W0 W0.drew := (Below.refl _ _).drew
theorem Gr.close {W0 : World} : ∀ W W' : World, Gr W0 W → Below W.heap.size W W' → Gr W0 W' := fun _ _ h k => Below.trans h (k.mono (Below.size h))
theorem Gr.cell {W0 : World} {a : Addr} {v : Value} (h : W0.cell? a = some v) (hb : a.block < W0.heap.size) : ∀ s : Wd (Gr W0), s.val.cell? a = some v := fun s => (Below.cell s.ok hb).trans h
end Go.Proofs.YtbncfknjgldcbaaGreat
/- Buckets as pairs of rational numbers, their order, and the contracts of curve.order and curve.dominates. -/
namespace Go.Proofs.YtbncfknjgldcbaaGreat
open Go.RowKit Go.Joins Num

structure Buck where
  b : Rat
  r : Rat
  hb : Fit b
  hr : Fit r
  pb : 0 ≤ b
  pr : 0 ≤ r
deriving DecidableEq
instance : Inhabited Buck := ⟨⟨0, 0, by constructor <;> decide, by constructor <;> decide, by decide, by decide⟩⟩
theorem Buck.ext' {x y : Buck} (h1 : x.b = y.b) (h2 : x.r = y.r) : x = y := by cases x; cases y; simp_all
def Buck.cells (x : Buck) : List Value := [.int .i64 x.b.num, .int .i64 x.b.den, .int .i64 x.r.num, .int .i64 x.r.den]
def ordI (c1 c2 : Int) : Int := if c1 = 0 then c2 else c1
def Buck.ord (x y : Buck) : Int := ordI (cmpQ x.b y.b) (cmpQ x.r y.r)
def Buck.domB (x y : Buck) : Bool := decide (x ≠ y) && (decide (cmpQ x.b y.b ≤ 0) && decide (cmpQ x.r y.r ≤ 0))

/-- cmp.Or of two. -/
theorem or_any (W : World) (b : Nat) (c1 c2 : Int) (cap : Nat) (h0 : W.cell? ⟨b, 0, none⟩ = some (.int .i64 c1)) (h1 : W.cell? ⟨b, 1, none⟩ = some (.int .i64 c2)) :
    Calls Tryz.prog 130 #[.slice (some ⟨b, 0, none⟩) 2 cap] W fun e w' => e = .returned (.int .i64 (ordI c1 c2)) ∧ W = w' := by
  by_cases h : c1 = 0
  · subst h
    rw [show ordI 0 c2 = c2 from rfl]
    by_cases h2 : c2 = 0
    · subst h2
      go_enter Tryz.func130, Tryz.ntmps130
      go_wp2
      refine wp_loop_rounds 3 ?_
      rw [rounds_succ]
      go_wp2
      rw [rounds_succ]
      go_wp2
      rw [rounds_succ]
      go_wp2
      go_ret
      exact ⟨rfl, rfl⟩
    · have h3 : (c2 == 0) = false := by simpa using h2
      have h4 : (c2 != 0) = true := by simpa using h2
      go_enter Tryz.func130, Tryz.ntmps130
      go_wp2
      refine wp_loop_rounds 2 ?_
      rw [rounds_succ]
      go_wp2
      rw [rounds_succ]
      go_wp2
      go_ret
      exact ⟨rfl, rfl⟩
  · have h3 : (c1 == 0) = false := by simpa using h
    have h4 : (c1 != 0) = true := by simpa using h
    rw [show ordI c1 c2 = c1 by unfold ordI; rw [if_neg h]]
    go_enter Tryz.func130, Tryz.ntmps130
    go_wp2
    refine wp_loop_rounds 1 ?_
    rw [rounds_succ]
    go_wp2
    go_ret
    exact ⟨rfl, rfl⟩

/-- The two buckets in their boxes; worlds that have grown from there. -/
structure Two (W0 : World) (b1 b2 : Nat) (x y : Buck) (W : World) : Prop where
  g : Lays W0 W
  l1 : b1 < W0.heap.size
  l2 : b2 < W0.heap.size
  x0 : W.cell? ⟨b1, 0, none⟩ = some (.int .i64 x.b.num)
  x1 : W.cell? ⟨b1, 1, none⟩ = some (.int .i64 x.b.den)
  x2 : W.cell? ⟨b1, 2, none⟩ = some (.int .i64 x.r.num)
  x3 : W.cell? ⟨b1, 3, none⟩ = some (.int .i64 x.r.den)
  y0 : W.cell? ⟨b2, 0, none⟩ = some (.int .i64 y.b.num)
  y1 : W.cell? ⟨b2, 1, none⟩ = some (.int .i64 y.b.den)
  y2 : W.cell? ⟨b2, 2, none⟩ = some (.int .i64 y.r.num)
  y3 : W.cell? ⟨b2, 3, none⟩ = some (.int .i64 y.r.den)
theorem Two.keep {W0 : World} {b1 b2 : Nat} {x y : Buck} {W W' : World} (h : Two W0 b1 b2 x y W) (k : Lays W W') : Two W0 b1 b2 x y W' := by
  have s := h.g.b.size
  have c : ∀ i, W'.cell? ⟨b1, i, none⟩ = W.cell? ⟨b1, i, none⟩ := fun i => k.b.cell (p := ⟨b1, i, none⟩) (Nat.lt_of_lt_of_le h.l1 s)
  have d : ∀ i, W'.cell? ⟨b2, i, none⟩ = W.cell? ⟨b2, i, none⟩ := fun i => k.b.cell (p := ⟨b2, i, none⟩) (Nat.lt_of_lt_of_le h.l2 s)
  exact ⟨h.g.trans k, h.l1, h.l2, (c 0).trans h.x0, (c 1).trans h.x1, (c 2).trans h.x2, (c 3).trans h.x3, (d 0).trans h.y0, (d 1).trans h.y1, (d 2).trans h.y2, (d 3).trans h.y3⟩

theorem Two.all {W0 : World} {b1 b2 : Nat} {x y : Buck} {w' : World} (h : Two W0 b1 b2 x y w') : w'.cell? ⟨b1, 0, none⟩ = some (.int .i64 x.b.num) ∧ w'.cell? ⟨b1, 1, none⟩ = some (.int .i64 x.b.den) ∧ w'.cell? ⟨b1, 2, none⟩ = some (.int .i64 x.r.num) ∧ w'.cell? ⟨b1, 3, none⟩ = some (.int .i64 x.r.den) ∧ w'.cell? ⟨b2, 0, none⟩ = some (.int .i64 y.b.num) ∧ w'.cell? ⟨b2, 1, none⟩ = some (.int .i64 y.b.den) ∧ w'.cell? ⟨b2, 2, none⟩ = some (.int .i64 y.r.num) ∧ w'.cell? ⟨b2, 3, none⟩ = some (.int .i64 y.r.den) ∧ Two W0 b1 b2 x y w' :=
  ⟨h.x0, h.x1, h.x2, h.x3, h.y0, h.y1, h.y2, h.y3, h⟩
set_option maxHeartbeats 2000000 in
theorem order_r (x y : Buck) (w : World) :
    Calls Tryz.prog 96 #[.agg x.cells.toArray, .agg y.cells.toArray] w fun e w' => e = .returned (.int .i64 (x.ord y)) ∧ Lays w w' := by
  have C1 : Hid (∀ W : World, _) := fun W => cmp_r x.hb y.hb W
  have C2 : Hid (∀ W : World, _) := fun W => cmp_r x.hr y.hr W
  have HO : Hid (x.ord y = ordI (cmpQ x.b y.b) (cmpQ x.r y.r)) := rfl
  generalize x.ord y = o at HO ⊢
  generalize cmpQ x.b y.b = c1 at C1 HO
  generalize cmpQ x.r y.r = c2 at C2 HO
  simp only [Buck.cells]
  go_enter Tryz.func96, Tryz.ntmps96
  go_wp2_with fail
  have T0 : Two ((w.alloc (.cells #[.int .i64 x.b.num, .int .i64 x.b.den, .int .i64 x.r.num, .int .i64 x.r.den] 80)).alloc (.cells #[.int .i64 y.b.num, .int .i64 y.b.den, .int .i64 y.r.num, .int .i64 y.r.den] 80)) w.heap.size (w.heap.size + 1) x y ((w.alloc (.cells #[.int .i64 x.b.num, .int .i64 x.b.den, .int .i64 x.r.num, .int .i64 x.r.den] 80)).alloc (.cells #[.int .i64 y.b.num, .int .i64 y.b.den, .int .i64 y.r.num, .int .i64 y.r.den] 80)) :=
    ⟨Lays.refl _, by simp; omega, by simp, by go_simp, by go_simp, by go_simp, by go_simp, by go_simp, by go_simp, by go_simp, by go_simp⟩
  have HL : Lays w ((w.alloc (.cells #[.int .i64 x.b.num, .int .i64 x.b.den, .int .i64 x.r.num, .int .i64 x.r.den] 80)).alloc (.cells #[.int .i64 y.b.num, .int .i64 y.b.den, .int .i64 y.r.num, .int .i64 y.r.den] 80)) := ((Lays.refl _).alloc _).alloc _
  generalize (w.alloc (.cells #[.int .i64 x.b.num, .int .i64 x.b.den, .int .i64 x.r.num, .int .i64 x.r.den] 80)).alloc (.cells #[.int .i64 y.b.num, .int .i64 y.b.den, .int .i64 y.r.num, .int .i64 y.r.den] 80) = W0 at T0 HL ⊢
  generalize w.heap.size + 1 = b2 at T0 ⊢
  generalize w.heap.size = b1 at T0 ⊢
  go_region_held3 (fun w' => w'.cell? ⟨b1, 0, none⟩ = some (.int .i64 x.b.num) ∧ w'.cell? ⟨b1, 1, none⟩ = some (.int .i64 x.b.den) ∧ w'.cell? ⟨b1, 2, none⟩ = some (.int .i64 x.r.num) ∧ w'.cell? ⟨b1, 3, none⟩ = some (.int .i64 x.r.den) ∧ w'.cell? ⟨b2, 0, none⟩ = some (.int .i64 y.b.num) ∧ w'.cell? ⟨b2, 1, none⟩ = some (.int .i64 y.b.den) ∧ w'.cell? ⟨b2, 2, none⟩ = some (.int .i64 y.r.num) ∧ w'.cell? ⟨b2, 3, none⟩ = some (.int .i64 y.r.den) ∧ Two W0 b1 b2 x y w')
    (first
      | exact T0.all
      | exact (T0.keep ((Lays.refl _).drew)).all
      | (go_split_ands
         exact (Two.keep (by assumption) (by assumption)).all)
      | (go_split_ands
         exact (Two.keep (by assumption) ((Lays.refl _).alloc _)).all)
      | (go_split_ands
         exact (Two.keep (by assumption) (Lays.refl _)).all))
    (first
      | (go_at_call 44; (with_reducible refine (C1.out _).mono ?_); rintro e w1 ⟨rfl, hb⟩)
      | (go_at_call 44; (with_reducible refine (C2.out _).mono ?_); rintro e w1 ⟨rfl, hb⟩)
      | (go_at_call 130; refine (or_any _ _ c1 c2 _ ?_ ?_).mono ?_; (go_simp); (go_simp); rintro e w1 ⟨rfl, rfl⟩; rw [← HO.out]))
  go_split_ands
  go_wp2
  go_ret
  exact ⟨rfl, HL.trans (Two.g (W0 := W0) (b1 := b1) (b2 := b2) (x := x) (y := y) (by assumption))⟩

/-- Two different buckets compared. -/
theorem neq_b {x y : Buck} (h : x ≠ y) (W : World) : Sem.run Tryz.prog (binOp .neq 80 (.agg #[.int .i64 x.b.num, .int .i64 x.b.den, .int .i64 x.r.num, .int .i64 x.r.den]) (.agg #[.int .i64 y.b.num, .int .i64 y.b.den, .int .i64 y.r.num, .int .i64 y.r.den])) W = .ok (.bool true) W := by
  have hn : ¬ (x.b.num = y.b.num ∧ (x.b.den : Int) = y.b.den ∧ x.r.num = y.r.num ∧ (x.r.den : Int) = y.r.den) := fun ⟨h1, h2, h3, h4⟩ => h (Buck.ext' (Rat.ext h1 (by omega)) (Rat.ext h3 (by omega)))
  generalize x.b.num = a1 at *
  generalize (x.b.den : Int) = a2 at *
  generalize x.r.num = a3 at *
  generalize (x.r.den : Int) = a4 at *
  generalize y.b.num = b1 at *
  generalize (y.b.den : Int) = b2 at *
  generalize y.r.num = b3 at *
  generalize (y.r.den : Int) = b4 at *
  go_simp
  repeat' split
  all_goals (first | rfl | omega | (simp; omega) | (simp_all))

set_option maxHeartbeats 2000000 in
theorem dominates_r (x y : Buck) (w : World) :
    Calls Tryz.prog 97 #[.agg x.cells.toArray, .agg y.cells.toArray] w fun e w' => e = .returned (.bool (x.domB y)) ∧ Lays w w' := by
  have C1 : Hid (∀ W : World, _) := fun W => cmp_r x.hb y.hb W
  have C2 : Hid (∀ W : World, _) := fun W => cmp_r x.hr y.hr W
  unfold Buck.domB
  by_cases hxy : x = y
  · subst hxy
    simp only [Buck.cells, ne_eq, not_true_eq_false, decide_false, Bool.false_and]
    go_enter Tryz.func97, Tryz.ntmps97
    go_wp2_with fail
    go_ret
    exact ⟨rfl, ((Lays.refl _).alloc _).alloc _⟩
  · have hne := fun W => neq_b hxy W
    simp only [Buck.cells, ne_eq, hxy, not_false_eq_true, decide_true, Bool.true_and]
    generalize cmpQ x.b y.b = c1 at C1 ⊢
    generalize cmpQ x.r y.r = c2 at C2 ⊢
    have HL := ((Lays.refl w).alloc (.cells #[.int .i64 x.b.num, .int .i64 x.b.den, .int .i64 x.r.num, .int .i64 x.r.den] 80)).alloc (.cells #[.int .i64 y.b.num, .int .i64 y.b.den, .int .i64 y.r.num, .int .i64 y.r.den] 80)
    by_cases h1 : c1 ≤ 0
    · simp only [h1, decide_true, Bool.true_and]
      have e1 : decide (c1 ≤ 0) = true := by simpa using h1
      go_enter Tryz.func97, Tryz.ntmps97
      go_wp2_with fail
      refine (C1.out _).mono ?_; rintro e w1 ⟨rfl, hb1⟩
      obtain ⟨hc, hf⟩ := bcell hb1.b
      have hz := hb1.b.size
      simp only [World.size_alloc] at hc hf hz
      go_wp2_with fail
      refine (C2.out _).mono ?_; rintro e w2 ⟨rfl, hb2⟩
      go_wp2
      go_ret
      exact ⟨rfl, (HL.trans hb1).trans hb2⟩
    · have e1 : decide (c1 ≤ 0) = false := by simpa using h1
      rw [e1, Bool.false_and]
      have h1' : 0 < c1 := by omega
      go_enter Tryz.func97, Tryz.ntmps97
      go_wp2_with fail
      refine (C1.out _).mono ?_; rintro e w1 ⟨rfl, hb1⟩
      go_wp2
      go_ret
      exact ⟨rfl, HL.trans hb1⟩
end Go.Proofs.YtbncfknjgldcbaaGreat
/- slices.Values at buckets: its closure hands on the row's buckets in their order. -/
namespace Go.Proofs.YtbncfknjgldcbaaGreat
open Go.RowKit Go.Joins Go.Shelf Num
attribute [local go_sem] Oper.semAt_some

/-- Block b holds the buckets c from off on. -/
def Row (W : World) (b off : Nat) (c : List Buck) : Prop :=
  ∀ j x, c[j]? = some x → W.cell? ⟨b, off + j * 4, none⟩ = some (.int .i64 x.b.num) ∧ W.cell? ⟨b, off + j * 4 + 1, none⟩ = some (.int .i64 x.b.den) ∧ W.cell? ⟨b, off + j * 4 + 2, none⟩ = some (.int .i64 x.r.num) ∧ W.cell? ⟨b, off + j * 4 + 3, none⟩ = some (.int .i64 x.r.den)
theorem Row.below {B : Nat} {W W' : World} {b off : Nat} {c : List Buck} (h : Row W b off c) (hk : Below B W W') (hb : b < B) : Row W' b off c := fun j x hx => by
  obtain ⟨h0, h1, h2, h3⟩ := h j x hx
  exact ⟨(hk.cell (p := ⟨b, _, none⟩) hb).trans h0, (hk.cell (p := ⟨b, _, none⟩) hb).trans h1, (hk.cell (p := ⟨b, _, none⟩) hb).trans h2, (hk.cell (p := ⟨b, _, none⟩) hb).trans h3⟩

theorem take_succ' {α : Type} {l : List α} {k : Nat} {x : α} (h : l[k]? = some x) : l.take (k + 1) = l.take k ++ [x] := by
  rw [List.take_add_one, h]; rfl

set_option maxRecDepth 100000 in
set_option maxHeartbeats 2000000 in
theorem values1_in (F : Fence) (n : Nat) (h7 : F.fn 129) (hro : F.round = none) (hn : 1 ≤ n) (l Bs n₀ b off cap : Nat) (c : List Buck) (hlen : c.length ≤ 4611686018427387903) (hb : b < n₀) (J Jx : List Buck → World → Prop)
    (hJa : ∀ pre W o, J pre W → n₀ ≤ W.heap.size → J pre (W.alloc o))
    (hY : ∀ pre x W, J pre W → pre.length < c.length → YieldAt F (n - 1) Tryz.prog l #[.agg x.cells.toArray] W fun e W' =>
      (e = .returned (.bool true) ∧ J (pre ++ [x]) W' ∧ Below n₀ W W') ∨ (e = .returned (.bool false) ∧ Jx (pre ++ [x]) W'))
    (W : World) (hn0 : n₀ ≤ W.heap.size) (hBs : W.cell? ⟨Bs, 0, none⟩ = some (.slice (some ⟨b, off, none⟩) c.length cap)) (hc : Row W b off c) (h0 : J [] W) :
    CallsIn F n Tryz.prog 129 #[.func (.yield l) #[] #[], .pointer (some ⟨Bs, 0, none⟩)] W fun e W' => (∃ v, e = .returned v) ∧
      ((∃ ys, ys = c ∧ J ys W') ∨ (∃ pre, pre <+: c ∧ Jx pre W')) := by
  refine callsIn_of_wp Tryz.func129 rfl h7 ?_ hro
  simp only [Tryz.ntmps129, List.size_toArray, List.length_cons, List.length_nil, Nat.reduceAdd, Nat.reduceSub, Array.replicate_succ, Array.replicate_zero, List.push_toArray, List.append_toArray, List.nil_append, List.cons_append]
  gi_wp2
  gi_loopw [7] (fun i wr => ∃ k : Nat, k ≤ c.length ∧ i = .int .i64 k ∧ J (c.take k) wr ∧ Below n₀ W wr)
    (fun i _ => c.length - (intOf i).toNat)
  case atStart => exact ⟨0, Nat.zero_le _, rfl, by simpa using h0, Below.refl _ _⟩
  case round =>
    obtain ⟨k, hk, rfl, hJs, hnx⟩ := hrel
    by_cases hlt : k < c.length
    · have hx : c[k]? = some c[k] := List.getElem?_eq_getElem hlt
      obtain ⟨x, hxe⟩ : ∃ x, c[k] = x := ⟨_, rfl⟩
      rw [hxe] at hx
      have hts := Lib.hid (take_succ' hx)
      obtain ⟨c0, c1, c2, c3⟩ := hc.below hnx hb k x hx
      have hwz : n₀ ≤ wr.heap.size := Nat.le_trans hn0 hnx.size
      obtain ⟨fn, tmps, assign, body, hy, hR⟩ := hY _ x (wr.alloc (.cells #[.int .i64 x.b.num, .int .i64 x.b.den, .int .i64 x.r.num, .int .i64 x.r.den] 80)) (hJa _ _ _ hJs hwz) (by rw [List.length_take]; omega)
      simp only [Buck.cells] at hy
      have Hx := Lib.hid hx
      have Hxe := Lib.hid hxe
      clear hx hxe
      gi_wp2
      refine hR.mono ?_
      rintro e W3 (⟨rfl, hJ3, hk3⟩ | ⟨rfl, hJx3⟩)
      · gi_wp2
        go_roundw
        case rel => exact ⟨k + 1, by omega, by simp, by rw [hts.out]; exact hJ3, (hnx.alloc hwz _).trans hk3⟩
        case measure => simp [intOf]; omega
      · gi_wp2
        refine bodyPost_ret (results_none rfl _ _ _) rfl ?_
        exact ⟨⟨_, rfl⟩, .inr ⟨_, by rw [← hts.out]; exact List.take_prefix _ _, hJx3⟩⟩
    · obtain rfl : k = c.length := by omega
      gi_wp2
      go_end0
      exact ⟨⟨_, rfl⟩, .inl ⟨_, rfl, by simpa using hJs⟩⟩

/-- The slice value sv holds the buckets c, in a block below n₀. -/
def Sl (n₀ : Nat) (W : World) (sv : Value) (c : List Buck) : Prop :=
  ∃ A cap, sv = .slice A c.length cap ∧ (c ≠ [] → ∃ b off, A = some ⟨b, off, none⟩ ∧ b < n₀ ∧ Row W b off c)
theorem Sl.below {B n₀ : Nat} {W W' : World} {sv : Value} {c : List Buck} (h : Sl n₀ W sv c) (hk : Below B W W') (hn : n₀ ≤ B) : Sl n₀ W' sv c := by
  obtain ⟨A, cap, e, h⟩ := h
  exact ⟨A, cap, e, fun hc => by obtain ⟨b, off, e1, e2, e3⟩ := h hc; exact ⟨b, off, e1, e2, e3.below hk (by omega)⟩⟩

set_option maxRecDepth 100000 in
set_option maxHeartbeats 1000000 in
theorem values1_nil_in (F : Fence) (n : Nat) (h7 : F.fn 129) (hro : F.round = none) (l Bs cap : Nat) (A : Option Addr) (J : List Buck → World → Prop) (W : World) (hBs : W.cell? ⟨Bs, 0, none⟩ = some (.slice A 0 cap)) (h0 : J [] W) :
    CallsIn F n Tryz.prog 129 #[.func (.yield l) #[] #[], .pointer (some ⟨Bs, 0, none⟩)] W fun e W' => (∃ v, e = .returned v) ∧ J [] W' := by
  refine callsIn_of_wp Tryz.func129 rfl h7 ?_ hro
  simp only [Tryz.ntmps129, List.size_toArray, List.length_cons, List.length_nil, Nat.reduceAdd, Nat.reduceSub, Array.replicate_succ, Array.replicate_zero, List.push_toArray, List.append_toArray, List.nil_append, List.cons_append]
  gi_wp2
  gi_loopw [7] (fun i wr => i = .int .i64 0 ∧ J [] wr) (fun _ _ => 0)
  case atStart => exact ⟨rfl, h0⟩
  case round =>
    obtain ⟨rfl, hJs⟩ := hrel
    gi_wp2
    go_end0
    exact ⟨⟨_, rfl⟩, hJs⟩

set_option maxHeartbeats 1000000 in
/-- slices.Values: the slice is boxed; the function value holds the box. -/
theorem values_in (F : Fence) (n : Nat) (h5 : F.fn 95) (hro : F.round = none) (a : Option Addr) (len cap : Nat) (w : World) :
    CallsIn F n Tryz.prog 95 #[.slice a len cap] w fun e w' => e = .returned (.func (.func 129) #[] #[.pointer (some ⟨w.heap.size, 0, none⟩)]) ∧ w' = w.alloc (.cells #[.slice a len cap] 22) := by
  refine callsIn_of_wp Tryz.func95 rfl h5 ?_ hro
  simp only [Tryz.ntmps95, List.size_toArray, List.length_cons, List.length_nil, Nat.reduceAdd, Nat.reduceSub, Array.replicate_succ, Array.replicate_zero, List.push_toArray, List.append_toArray, List.nil_append, List.cons_append]
  gi_wp2
  go_ret
  exact ⟨rfl, rfl⟩

/-- The function value of slices.Values hands on the buckets of its slice. -/
theorem values_stops (F : Fence) (n : Nat) (h7 : F.fn 129) (hro : F.round = none) (hn : 1 ≤ n) (Bs n₀ : Nat) (sv : Value) (c : List Buck) (hlen : c.length ≤ 4611686018427387903) (w : World) (hBs : Bs < w.heap.size) (hn₀ : n₀ ≤ w.heap.size)
    (hc : w.cell? ⟨Bs, 0, none⟩ = some sv) (hI : Sl n₀ w sv c) :
    SeqStopsK F n Tryz.prog 129 #[.pointer (some ⟨Bs, 0, none⟩)] (fun x : Buck => #[.agg x.cells.toArray]) (Below n₀) (fun ys => ys = c) (fun pre => pre <+: c) c.length w := fun l J Jx W hW hJ _ hY h0 => by
  have hc' := (hW.cell (p := ⟨Bs, 0, none⟩) hBs).trans hc
  obtain ⟨A, cap, rfl, hrow⟩ := hI.below hW hn₀
  by_cases he : c = []
  · subst he
    exact (values1_nil_in F n h7 hro l Bs cap A J W hc' h0).mono fun e W' ⟨he, hj⟩ => ⟨he, .inl ⟨_, rfl, hj⟩⟩
  · obtain ⟨b, off, rfl, hb, hr⟩ := hrow he
    exact values1_in F n h7 hro hn l Bs n₀ b off cap c hlen hb J Jx (fun pre W1 o hj _ => hJ pre W1 _ none hj (World.grownBy_alloc W1 o none) (fun r e => by cases e)) hY W (Nat.le_trans hn₀ hW.size) hc' hr h0
end Go.Proofs.YtbncfknjgldcbaaGreat
/- slices.AppendSeq, Collect and SortedFunc at buckets. -/
namespace Go.Proofs.YtbncfknjgldcbaaGreat
open Go.RowKit Go.Joins Go.Shelf Num
attribute [local go_sem] Oper.semAt_some

/-- Block B holds just these cells. -/
def BoxN (W : World) (B : Nat) (t : TypeId) (cs : Array Value) : Prop := W.heap[B]? = some (.cells cs t (0, 0))
section
variable {W W' : World} {B : Nat} {t : TypeId} {cs : Array Value}
theorem BoxN.lt (h : BoxN W B t cs) : B < W.heap.size := (Array.getElem?_eq_some_iff.1 h).1
theorem BoxN.cell (h : BoxN W B t cs) (i : Nat) : W.cell? ⟨B, i, none⟩ = cs[i]? := cell_of_block h i
theorem BoxN.new (W : World) (t : TypeId) (cs : Array Value) : BoxN (W.alloc (.cells cs t)) W.heap.size t cs := World.alloc_heap_new W _
theorem BoxN.kept {row : Option Nat} (h : BoxN W B t cs) (hg : W.grownBy W' row) (hne : some B ≠ row) : BoxN W' B t cs := (hg.block B h.lt hne).trans h
theorem BoxN.alloc (h : BoxN W B t cs) (o : Obj) : BoxN (W.alloc o) B t cs := h.kept (World.grownBy_alloc W o none) (by simp)
theorem BoxN.below {n₀ : Nat} (h : BoxN W B t cs) (hb : Below n₀ W W') (hB : B < n₀) : BoxN W' B t cs := (hb.block B hB).trans h
end
theorem boxN_own {β : Type} (B : Nat) (t : TypeId) (f : β → Array Value) : Own (fun s W => BoxN W B t (f s)) := fun _ _ _ _ hs hg hrow =>
  hs.kept hg (fun e' => by obtain ⟨o, ho, hc⟩ := hrow B e'.symm; rw [show _ = _ from hs] at ho; cases ho; cases hc)

theorem infoB : (Tryz.prog.info? 80).map (fun i => (i.zero, i.size, i.bytes)) = some (some (.agg #[.int .i64 0, .int .i64 0, .int .i64 0, .int .i64 0]), 4, 32) := by kernel_rfl
theorem one_cells (x : Buck) : ∀ u ∈ x.cells, u.oneCell' = true := by
  intro u hu
  simp only [Buck.cells, List.mem_cons, List.not_mem_nil, or_false] at hu
  rcases hu with rfl | rfl | rfl | rfl <;> rfl
/-- The cells of buckets. -/
def cellsOf (c : List Buck) : List Value := c.flatMap Buck.cells
theorem cellsOf_snoc (c : List Buck) (x : Buck) : cellsOf (c ++ [x]) = cellsOf c ++ x.cells := by simp [cellsOf]
theorem cellsOf_length (c : List Buck) : (cellsOf c).length = c.length * 4 := by
  unfold cellsOf
  induction c with
  | nil => rfl
  | cons x c ih => rw [List.flatMap_cons, List.length_append, ih, List.length_cons, Nat.succ_mul]; simp [Buck.cells]; omega

set_option maxRecDepth 100000 in
set_option maxHeartbeats 4000000 in
theorem appendSeq_in (F : Fence) (n : Nat) (h77 : F.fn 144) (h65 : F.fn 129) (hro : F.round = none) (hn : 3 ≤ n) (Bs : Nat) (sv : Value) (c : List Buck) (hlen : c.length ≤ 4398046511104) (w : World) (hBs : Bs < w.heap.size)
    (hc : w.cell? ⟨Bs, 0, none⟩ = some sv) (hI : Sl w.heap.size w sv c) :
    CallsIn F n Tryz.prog 144 #[.slice none 0 0, .func (.func 129) #[] #[.pointer (some ⟨Bs, 0, none⟩)]] w fun e W' => ∃ v, e = .returned v ∧ W'.ownsRow w.heap.size 80 4 v c.length (cellsOf c) ∧ (v = .slice none 0 0 ↔ c = []) ∧ Below w.heap.size w W' := by
  have h1 : 1 ≤ n := by omega
  obtain ⟨i0, hi, hz0, hz1, hz2⟩ := info_parts infoB
  refine callsIn_of_wp_marks Tryz.func144 rfl h77 ?_ hro
  simp only [Tryz.ntmps144, List.size_toArray, List.length_cons, List.length_nil, Nat.reduceAdd, Nat.reduceSub, Array.replicate_succ, Array.replicate_zero, List.push_toArray, List.append_toArray, List.nil_append, List.cons_append]
  gi_wp2
  have bO := Boxed.new w 22 (.slice none 0 0)
  have hB0 : Below w.heap.size w (w.alloc (.cells #[.slice none 0 0] 22)) := (Below.refl _ w).alloc (Nat.le_refl _) _
  have hsz : (w.alloc (.cells #[.slice none 0 0] 22)).heap.size = w.heap.size + 1 := by simp
  obtain ⟨W0, hW0⟩ : ∃ W0, w.alloc (.cells #[.slice none 0 0] 22) = W0 := ⟨_, rfl⟩
  rw [hW0] at bO hB0 hsz ⊢
  clear hW0
  refine wpIn_rangeFunc_ownH hro h1 (gf := 129) (lb := #[.pointer (some ⟨Bs, 0, none⟩)]) rfl h65 (enters_of Tryz.func129 (by kernel_rfl) rfl)
    (values_stops F (n - 1) h65 hro (by omega) Bs w.heap.size sv c (by omega) W0 (by omega) (by omega) ((hB0.cell (p := ⟨Bs, 0, none⟩) hBs).trans hc) (hI.below hB0 (Nat.le_refl _))) belowK_t (belowK_b (by omega)) (Below.refl _ _) (fun _ => rfl)
    (fun pre W => (∃ v, Boxed W w.heap.size 22 v ∧ W.ownsRow w.heap.size 80 4 v pre.length (cellsOf pre) ∧ (v = .slice none 0 0 ↔ pre = [])) ∧ Below w.heap.size w W)
    (fun _ _ _ => False)
    (OwnFrom.and (Own.from (holdsRow_own w.heap.size w.heap.size 22 80 4 (fun pre : List Buck => pre.length) (fun pre => cellsOf pre) (fun pre v => v = .slice none 0 0 ↔ pre = [])) _) (ownFrom_below (Nat.le_refl _) (by omega)))
    (fun _ _ _ _ _ hs _ _ => hs)
    ⟨⟨_, bO, World.ownsRow_nil _ _ _ _, by simp⟩, hB0⟩
    (fun x a' W => ∃ Bx, w.heap.size < Bx ∧ BoxN W Bx 80 x.cells.toArray ∧ a' = { tmps := #[.slice none 0 0, .func (.func 129) #[] #[.pointer (some ⟨Bs, 0, none⟩)], .pointer (some ⟨w.heap.size, 0, none⟩), undef, .slice none 0 0, .pointer (some ⟨Bx, 0, none⟩), .func (.func 129) #[] #[.pointer (some ⟨Bs, 0, none⟩)], .agg x.cells.toArray, undef, undef, undef, undef, undef], defers := [] })
    (fun x a' _ X Y row hs hg hr => by obtain ⟨Bx, h1, h2, h3⟩ := hs; exact ⟨Bx, h1, boxN_own Bx 80 (fun (_ : Unit) => x.cells.toArray) () X Y row h2 hg (fun r e => (hr r e).2), h3⟩)
    ?assign ?body ?done ?stop
  case assign =>
    rintro l pre x W K ⟨⟨v, hv, hrow, hnil⟩, hB⟩ hK
    simp only [Buck.cells] at hK ⊢
    gi_wp2
    exact hK _ _ ((KeepsOthers.alloc _ _).from _) ((Below.refl _ W).alloc hB.size _) ⟨⟨v, hv.alloc _, hrow.alloc _, hnil⟩, hB.alloc hB.size _⟩ ⟨W.heap.size, hv.lt, BoxN.new W _ _, rfl⟩
  case body =>
    rintro l pre x a' W hl ⟨r, hr⟩ ⟨⟨v, hv, hrow, hnil⟩, hB⟩ ⟨Bx, hBx, bX, rfl⟩ hlt
    have hc := hv.cell
    have b0 : W.cell? ⟨Bx, 0, none⟩ = some (.int .i64 x.b.num) := bX.cell 0
    have b1 : W.cell? ⟨Bx, 1, none⟩ = some (.int .i64 x.b.den) := bX.cell 1
    have b2 : W.cell? ⟨Bx, 2, none⟩ = some (.int .i64 x.r.num) := bX.cell 2
    have b3 : W.cell? ⟨Bx, 3, none⟩ = some (.int .i64 x.r.den) := bX.cell 3
    have hone := one_cells x
    have hsn := Lib.hid (cellsOf_snoc pre x)
    simp only [Buck.cells] at hone hsn ⊢
    gi_wp2_with (gi_at_builtin; refine wpListIn_append_own _ rfl _ _ 22 rfl w.heap.size 80 i0 _ 4 32 Tryz.underlying22 hi hz0 hz1 hz2 rfl (by decide) _ _ _ rfl (hrow.alloc _) ⟨W.heap.size, 0, none⟩ 1 1 [.int .i64 x.b.num, .int .i64 x.b.den, .int .i64 x.r.num, .int .i64 x.r.den] rfl rfl (World.news_of_block (cs := #[.int .i64 x.b.num, .int .i64 x.b.den, .int .i64 x.r.num, .int .i64 x.r.den]) (t := 80) (fr := (0, 0)) (heap_alloc_new W _)) hone (by unfold maxLen; omega) (by omega) (by have := hB.size; simp; omega) ?_; intro v' w1 hown' hgrow _; obtain ⟨g', cap', rfl⟩ := ownsRow_succ hown'; obtain ⟨hv1, hv2, hr2, hk2, hb2⟩ := hv.appended (by decide) hrow hB.size (Nat.le_refl _) hown' hgrow; have hc1 := hv1.cell; have hf1 := hv1.frozen)
    exact ⟨hk2.from _, hb2, ⟨_, hv2, by rw [hsn.out]; simpa using hr2, by simp⟩, hB.trans hb2⟩
  case done =>
    rintro D ys W hD rfl ⟨⟨v, hv, hrow, hnil⟩, hB⟩ hK
    have hc := hv.cell
    gi_wp2
    refine ⟨by simp, .inl ⟨_, _, rfl, run_takeDeferred hK, ?_⟩⟩
    exact ⟨_, results_tmp rfl _ _ _, v, rfl, ownsRow_putObj hrow _ hK rfl, hnil, hB.trans (belowK_b (w := w) (Nat.le_refl _) W D _ _ (by omega) hK rfl rfl)⟩
  case stop =>
    rintro D c pre W _ _ h _
    exact h.elim
end Go.Proofs.YtbncfknjgldcbaaGreat
