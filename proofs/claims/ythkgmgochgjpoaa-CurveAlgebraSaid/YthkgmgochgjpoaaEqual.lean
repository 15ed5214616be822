/- The law package's equal: two lists of buckets are compared one by one. -/
import Derived.Test.YthkgmgochgjpoaaKept
namespace Go.Proofs.Ythkgmgochgjpoaa
open Go.RowKit Go.Joins Go.Shelf Go.Sort Num

set_option maxHeartbeats 2000000 in
theorem equal_any (A B : Option Addr) (ca cb : Nat) (a b : List Buck) (hla : a.length ≤ 1048576) (hlb : b.length ≤ 1048576) (w : World) (hA : isC A ca a w) (hB' : isC B cb b w) :
    Calls Try.prog 25 #[.slice A a.length ca, .slice B b.length cb] w fun e w' => e = .returned (.bool (decide (a = b))) ∧ Below w.heap.size w w' := by
  by_cases hl : a.length = b.length
  · go_enter Try.func25, Try.ntmps25
    go_wp2_with fail
    go_loopw [13] (fun i wr => ∃ k : Nat, k ≤ a.length ∧ i = .int .i64 k ∧ a.take k = b.take k ∧ Below w.heap.size w wr)
      (fun i _ => a.length - (intOf i).toNat)
    case atStart => exact ⟨0, Nat.zero_le _, rfl, rfl, Below.refl _ _⟩
    case round =>
      obtain ⟨k, hk, rfl, htk, hB⟩ := hrel
      by_cases hlt : k < a.length
      · have hx : a[k]? = some a[k] := List.getElem?_eq_getElem hlt
        have hy : b[k]? = some (b[k]'(by omega)) := List.getElem?_eq_getElem (by omega)
        obtain ⟨x, hxe⟩ : ∃ x, a[k] = x := ⟨_, rfl⟩
        obtain ⟨y, hye⟩ : ∃ y, b[k]'(by omega) = y := ⟨_, rfl⟩
        rw [hxe] at hx
        rw [hye] at hy
        obtain ⟨ga, oa, rfl, hla2, hra⟩ := hA.cells (by intro h; subst h; simp at hlt)
        obtain ⟨gb, ob, rfl, hlb2, hrb⟩ := hB'.cells (by intro h; rw [h] at hl; rw [hl] at hlt; simp at hlt)
        obtain ⟨x0, x1, x2, x3⟩ := hra.below hB hla2 k x hx
        obtain ⟨y0, y1, y2, y3⟩ := hrb.below hB hlb2 k y hy
        have hneq := fun W => neqB_run (x := x) (y := y) W
        have HX := Lib.hid hx
        have HY := Lib.hid hy
        have Hlen := Lib.hid hl
        have hlt2 : k < b.length := by omega
        clear hx hy hxe hye hl
        by_cases hxy : x = y
        · rw [decide_eq_true hxy] at hneq
          simp only [Bool.not_true] at hneq
          have Htk : Hid (a.take (k + 1) = b.take (k + 1)) := by unfold Hid; rw [take_succ' HX.out, take_succ' HY.out, htk, hxy]
          clear htk
          go_wp2_with fail
          go_quiet (fail)
          rename_i nq
          replace hB := below_drewN hB nq
          clear x0 x1 x2 x3 y0 y1 y2 y3 hneq
          generalize wr.drewN nq = wq at hB ⊢
          go_wp2
          go_roundw
          case rel => exact ⟨k + 1, by omega, by go_num, Htk.out, hB⟩
          case measure => simp [intOf]; omega
        · rw [decide_eq_false hxy] at hneq
          simp only [Bool.not_false] at hneq
          have hne : Hid (decide (a = b) = false) := decide_eq_false fun h => by
            subst h
            have := HX.out.symm.trans HY.out
            exact hxy (Option.some.inj this)
          clear htk
          go_wp2_with fail
          go_quiet (fail)
          rename_i nq
          replace hB := below_drewN hB nq
          clear x0 x1 x2 x3 y0 y1 y2 y3 hneq
          generalize wr.drewN nq = wq at hB ⊢
          go_wp2
          go_ret
          exact ⟨by rw [hne.out]; rfl, hB⟩
      · obtain rfl : k = a.length := by omega
        have heq : Hid (decide (a = b) = true) := decide_eq_true (by rw [List.take_length] at htk; rw [htk, hl, List.take_length])
        have Hl := Lib.hid hl
        have hd : decide (a.length < b.length) = false := by simp; omega
        clear htk hl
        go_wp2

        go_ret
        exact ⟨by rw [heq.out]; rfl, hB⟩
  · have hne : decide (a = b) = false := decide_eq_false fun h => hl (by rw [h])
    rw [hne]
    have hn1 : ((a.length : Int) != b.length) = true := by
      simp only [bne_iff_ne, ne_eq]; omega
    have hn2 : ((a.length : Int) == b.length) = false := by simp; omega
    clear hne
    go_enter Try.func25, Try.ntmps25
    go_wp2
    go_ret
    exact ⟨rfl, Below.refl _ _⟩
end Go.Proofs.Ythkgmgochgjpoaa
