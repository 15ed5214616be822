/- Merged texts: CInts. -/
import Derived.Test.YtbncfknjgldcbaaGreatM8
/- nacellelaw03.Ints, num and bucket. -/
namespace Go.Proofs.YtbncfknjgldcbaaGreat
open Go.RowKit Go.Joins Go.Shelf Go.Sort Num

theorem num3_any (n d : Int) (w : World) : Calls Tryz.prog 42 #[.int .i64 n, .int .i64 d] w fun e w' => e = .returned (.agg #[.int .i64 n, .int .i64 d]) ∧ Below w.heap.size w w' := by
  have hB := Below.refl w.heap.size w
  go_enter Tryz.func42, Tryz.ntmps42
  go_wp2
  refine bodyPost_ret (v := .agg #[.int .i64 n, .int .i64 d]) (by simp [results, Tryz.results42, go_sem]) rfl ⟨rfl, ?_⟩
  (have hBs := hB.size; (try simp only [World.size_alloc] at hBs); repeat' (first | (with_reducible exact hB) | (with_reducible exact hBs) | (with_reducible refine Below.drew ?_) | (with_reducible refine below_drewN ?_ _) | (with_reducible refine Below.setCell ?_ ?_ _) | (with_reducible refine Below.alloc ?_ ?_ _) | go_size | omega | (simp; omega)))
theorem bucket3_any (a b c d : Int) (w : World) : Calls Tryz.prog 41 #[.agg #[.int .i64 a, .int .i64 b], .agg #[.int .i64 c, .int .i64 d]] w fun e w' => e = .returned (.agg #[.int .i64 a, .int .i64 b, .int .i64 c, .int .i64 d]) ∧ Below w.heap.size w w' := by
  have hB := Below.refl w.heap.size w
  go_enter Tryz.func41, Tryz.ntmps41
  go_wp2
  refine bodyPost_ret (v := .agg #[.int .i64 a, .int .i64 b, .int .i64 c, .int .i64 d]) (by simp [results, Tryz.results41, go_sem]) rfl ⟨rfl, ?_⟩
  (have hBs := hB.size; (try simp only [World.size_alloc] at hBs); repeat' (first | (with_reducible exact hB) | (with_reducible exact hBs) | (with_reducible refine Below.drew ?_) | (with_reducible refine below_drewN ?_ _) | (with_reducible refine Below.setCell ?_ ?_ _) | (with_reducible refine Below.alloc ?_ ?_ _) | go_size | omega | (simp; omega)))

set_option maxRecDepth 100000 in
set_option maxHeartbeats 2000000 in
theorem ints_any (A B : Option Addr) (ca cb : Nat) (xs ys : List Int) (h1 : xs.length ≤ 1048576) (h2 : ys.length ≤ 1048576) (hx : ∀ x ∈ xs, I64 x) (hy : ∀ y ∈ ys, I64 y) (w : World) (hA : isN A xs w) (hB : isN B ys w) :
    Calls Tryz.prog 38 #[.slice A xs.length ca, .slice B ys.length cb] w fun e w' => e = .returned (.bool (decide (xs = ys))) ∧ Below w.heap.size w w' := by
  by_cases hl : xs.length = ys.length
  case neg =>
    have h3 : Hid (decide (xs = ys) = false) := decide_eq_false (fun h => hl (by rw [h]))
    have h4 : ¬ ((xs.length : Int) = ys.length) := by omega
    go_enter Tryz.func38, Tryz.ntmps38
    go_wp2
    go_ret
    exact ⟨by rw [h3.out]; rfl, Below.refl _ _⟩
  have hA := Lib.hid hA
  have hB := Lib.hid hB
  have hl' := Lib.hid hl
  have z : (xs.length : Int) = ys.length := by omega
  go_enter Tryz.func38, Tryz.ntmps38
  go_wp2_with fail
  go_loopw [13] (fun i wr => ∃ k : Nat, k ≤ xs.length ∧ i = .int .i64 ↑k ∧ Hid (xs.take k = ys.take k) ∧ Below w.heap.size w wr)
    (fun i _ => xs.length - (intOf i).toNat)
  case atStart => exact ⟨0, Nat.zero_le _, rfl, rfl, Below.refl _ _⟩
  case round =>
    obtain ⟨k, hk, rfl, heq, hBw⟩ := hrel
    by_cases hlt : k < xs.length
    · have hx : xs[k]? = some xs[k] := List.getElem?_eq_getElem hlt
      have hy : ys[k]? = some (ys[k]'(by omega)) := List.getElem?_eq_getElem (by omega)
      obtain ⟨x, hxe⟩ : ∃ x, xs[k] = x := ⟨_, rfl⟩
      obtain ⟨y, hye⟩ : ∃ y, ys[k]'(by omega) = y := ⟨_, rfl⟩
      rw [hxe] at hx
      rw [hye] at hy
      obtain ⟨b, off, rfl, hb, hr⟩ := hA.out (by intro h; subst h; simp at hlt)
      obtain ⟨b2, off2, rfl, hb2, hr2⟩ := hB.out (by intro h; subst h; simp at hl; subst hl; simp at hlt)
      have c0 := (hBw.cell (p := ⟨b, off + k, none⟩) hb).trans (hr k x hx)
      have c1 := (hBw.cell (p := ⟨b2, off2 + k, none⟩) hb2).trans (hr2 k y hy)
      have hlt2 : k < ys.length := by omega
      have hstep : Hid (x = y → xs.take (k + 1) = ys.take (k + 1)) := fun h => by rw [take_succ' hx, take_succ' hy, heq.out, h]
      have hno : Hid (x ≠ y → decide (xs = ys) = false) := fun h => decide_eq_false (fun e => h (by rw [e] at hx; rw [hx] at hy; injection hy))
      clear hx hy hxe hye hr hr2 heq
      go_wp2_with fail
      go_quiet (fail)
      by_cases hxy : x = y
      · have hs := Lib.hid (hstep.out hxy)
        subst hxy
        go_wp2
        go_roundw
        case rel => exact ⟨k + 1, by omega, by go_num, hs.out, by first | exact hBw | exact hBw.drew | exact below_drewN hBw _⟩
        case measure => simp [intOf]; omega
      · have hs := Lib.hid (hno.out hxy)
        go_wp2
        go_ret
        exact ⟨by rw [hs.out]; rfl, by first | exact hBw | exact hBw.drew | exact below_drewN hBw _⟩
    · obtain rfl : k = xs.length := by omega
      have hres : Hid (decide (xs = ys) = true) := by
        have := heq.out
        rw [List.take_length, hl'.out, List.take_length] at this
        exact decide_eq_true this
      go_wp2_with fail
      go_ret
      exact ⟨by rw [hres.out]; rfl, hBw⟩
end Go.Proofs.YtbncfknjgldcbaaGreat
