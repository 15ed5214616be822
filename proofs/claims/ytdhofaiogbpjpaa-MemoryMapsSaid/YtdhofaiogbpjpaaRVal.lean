/- The reference's Valid. -/
import Derived.Test.YtdhofaiogbpjpaaVal
namespace Go.Proofs.Ytdhofaiogbpjpaa
open Go.RowKit Go.Joins
namespace Me
theorem count_take {L : List Rg} {q : Rg → Bool} {j : Nat} {x : Rg} (h : L[j]? = some x) : (L.take (j + 1)).countP q = (L.take j).countP q + (if q x = true then 1 else 0) := by
  rw [take_snoc' h, List.countP_append]
  cases hq : q x <;> simp [hq]
theorem take_n {L : List Rg} {n : Nat} (h : L.length = n) : L.take n = L := List.take_of_length_le (by rw [h]; exact Nat.le_refl _)
set_option maxRecDepth 100000 in
set_option maxHeartbeats 8000000 in
theorem rvalid_any (A : Option Addr) (c n : Nat) (L : List Rg) (hn : L.length = n) (hbd : Bd L) (mem : Int) (w : World) (hA : isG A L w) :
    Calls Try.prog 30 #[.slice A n c, .int .i64 mem] w fun e w' => e = .returned (.bool (vldR L mem)) ∧ Below w.heap.size w w' := by
  have HA := Lib.hid hA
  have HL := Lib.hid hn
  have HN : Hid (¬ (szOk mem = true ∧ n ≤ 6 ∧ (∀ (i : Nat) (r : Rg), L[i]? = some r → r.p = i ∧ refR mem r) ∧ ∀ at' : Nat, (at' : Int) < mem → L.countP (inR at') ≤ 1) → vldR L mem = false) := fun h => vldR_no fun v => h (by
    have := vld_iff.1 v
    rwa [hn] at this)
  have HY : Hid ((szOk mem = true ∧ n ≤ 6 ∧ (∀ (i : Nat) (r : Rg), L[i]? = some r → r.p = i ∧ refR mem r) ∧ ∀ at' : Nat, (at' : Int) < mem → L.countP (inR at') ≤ 1) → vldR L mem = true) := fun h => vldR_yes (vld_iff.2 (by rw [hn]; exact h))
  generalize vldR L mem = r at *
  clear hA hn
  have hm : szOk mem = (decide (0 ≤ mem) && decide (mem ≤ 4096)) := rfl
  by_cases hm0 : mem < 0
  · have hf := Lib.hid (HN.out fun h => by have := h.1; rw [hm] at this; simp at this; omega)
    have d : decide (mem < 0) = true := decide_eq_true hm0
    clear HN HY
    go_enter Try.func30, Try.ntmps30
    go_wp2_with fail
    go_ret
    exact ⟨by rw [hf.out]; rfl, Below.refl _ _⟩
  have d0 : decide (mem < 0) = false := decide_eq_false hm0
  by_cases hm1 : 4096 < mem
  · have hf := Lib.hid (HN.out fun h => by have := h.1; rw [hm] at this; simp at this; omega)
    have d : decide (4096 < mem) = true := decide_eq_true hm1
    clear HN HY
    go_enter Try.func30, Try.ntmps30
    go_wp2_with fail
    go_ret
    exact ⟨by rw [hf.out]; rfl, Below.refl _ _⟩
  have d1 : decide (4096 < mem) = false := decide_eq_false hm1
  by_cases h6 : 6 < n
  · have hf := Lib.hid (HN.out fun h => by have := h.2.1; omega)
    have d : decide ((6 : Int) < n) = true := by simp; omega
    clear HN HY
    go_enter Try.func30, Try.ntmps30
    go_wp2_with fail
    go_ret
    exact ⟨by rw [hf.out]; rfl, Below.refl _ _⟩
  have d6 : decide ((6 : Int) < n) = false := by simp; omega
  have Hsz : Hid (szOk mem = true) := by unfold Hid; rw [hm]; simp; omega
  clear hm
  go_enter Try.func30, Try.ntmps30
  go_wp2_with fail
  clear d0 d1 d6
  go_loopw [5] (fun i wr => ∃ k : Nat, k ≤ n ∧ i = .int .i64 k ∧ Hid (∀ (i : Nat) (r : Rg), i < k → L[i]? = some r → r.p = i ∧ refR mem r) ∧ Below w.heap.size w wr)
    (fun i _ => n - (intOf i).toNat)
  case atStart => exact ⟨0, Nat.zero_le _, rfl, fun i r hi => absurd hi (Nat.not_lt_zero i), Below.refl _ _⟩
  case round =>
    obtain ⟨k, hk, rfl, hv, hB⟩ := hrel
    by_cases hlt : k < n
    · have hx : L[k]? = some (L[k]'(by rw [HL.out]; exact hlt)) := List.getElem?_eq_getElem _
      obtain ⟨x, hxe⟩ : ∃ x, L[k]'(by rw [HL.out]; exact hlt) = x := ⟨_, rfl⟩
      rw [hxe] at hx
      obtain ⟨ab, ao, rfl, hal, c0, c1, c2⟩ := isG.at (HA.out.keep hB) hx
      have hdl : decide ((k : Int) < n) = true := by simp; omega
      have hbx := hbd x (List.mem_of_getElem? hx)
      have hld := load_rg ⟨c0, c1, c2⟩
      have hB1 := hB.alloc hB.size (.cells #[.int .i64 x.p, .int .i64 x.b, .int .i64 x.s] 45)
      have Hno : Hid (¬ (x.p = k ∧ refR mem x) → r = false) := fun h => HN.out fun v => h (v.2.2.1 k x hx)
      have Hgo : Hid (x.p = k ∧ refR mem x → ∀ (i : Nat) (r : Rg), i < k + 1 → L[i]? = some r → r.p = i ∧ refR mem r) := fun h i y hi hy => by
        rcases Nat.lt_succ_iff_lt_or_eq.1 hi with h1 | rfl
        · exact hv.out i y h1 hy
        · rw [hx] at hy; cases hy; exact h
      clear hx hxe hv
      obtain ⟨p, b, s⟩ := x
      unfold refR at Hno Hgo
      simp only [rgV] at *
      by_cases g0 : p = (k : Int)
      rotate_left
      · have hf := Lib.hid (Hno.out fun h => g0 h.1)
        have e0 : (p != (k : Int)) = true := by simpa using g0
        clear Hno Hgo
        go_wp2_with fail
        go_ret
        exact ⟨by rw [hf.out]; rfl, hB1⟩
      subst g0
      have e0 : ((k : Int) != (k : Int)) = false := by simp
      by_cases g1 : 0 ≤ b
      rotate_left
      · have hf := Lib.hid (Hno.out fun h => g1 h.2.1)
        have e1 : decide (b < 0) = true := decide_eq_true (by omega)
        clear Hno Hgo
        go_wp2_with fail
        go_ret
        exact ⟨by rw [hf.out]; rfl, hB1⟩
      have e1 : decide (b < 0) = false := decide_eq_false (by omega)
      by_cases g2 : b ≤ 4096
      rotate_left
      · have hf := Lib.hid (Hno.out fun h => g2 h.2.2.1)
        have e2 : decide (4096 < b) = true := decide_eq_true (by omega)
        clear Hno Hgo
        go_wp2_with fail
        go_ret
        exact ⟨by rw [hf.out]; rfl, hB1⟩
      have e2 : decide (4096 < b) = false := decide_eq_false (by omega)
      by_cases g3 : b % 8 = 0
      rotate_left
      · have hf := Lib.hid (Hno.out fun h => g3 h.2.2.2.1)
        have e3 : (b.tmod 8 != 0) = true := by rw [Int.tmod_eq_emod_of_nonneg (by omega)]; simpa using g3
        clear Hno Hgo
        go_wp2_with fail
        go_ret
        exact ⟨by rw [hf.out]; rfl, hB1⟩
      have e3 : (b.tmod 8 != 0) = false := by rw [Int.tmod_eq_emod_of_nonneg (by omega)]; simpa using g3
      by_cases g4 : 0 ≤ s
      rotate_left
      · have hf := Lib.hid (Hno.out fun h => g4 h.2.2.2.2.1)
        have e4 : decide (s < 0) = true := decide_eq_true (by omega)
        clear Hno Hgo
        go_wp2_with fail
        go_ret
        exact ⟨by rw [hf.out]; rfl, hB1⟩
      have e4 : decide (s < 0) = false := decide_eq_false (by omega)
      by_cases g5 : s ≤ 4096
      rotate_left
      · have hf := Lib.hid (Hno.out fun h => g5 h.2.2.2.2.2.1)
        have e5 : decide (4096 < s) = true := decide_eq_true (by omega)
        clear Hno Hgo
        go_wp2_with fail
        go_ret
        exact ⟨by rw [hf.out]; rfl, hB1⟩
      have e5 : decide (4096 < s) = false := decide_eq_false (by omega)
      by_cases g6 : b + s ≤ mem
      rotate_left
      · have hf := Lib.hid (Hno.out fun h => g6 h.2.2.2.2.2.2)
        have hw : IntKind.i64.wrap (b + s) = b + s := IntWalk.i64_in _ (by omega)
        have e6 : decide (mem < b + s) = true := decide_eq_true (by omega)
        clear Hno Hgo
        go_wp2_with fail
        go_ret
        exact ⟨by rw [hf.out]; rfl, hB1⟩
      have e6 : decide (mem < b + s) = false := decide_eq_false (by omega)
      have hw : IntKind.i64.wrap (b + s) = b + s := IntWalk.i64_in _ (by omega)
      have hf := Lib.hid (Hgo.out ⟨rfl, g1, g2, g3, g4, g5, g6⟩)
      clear Hno Hgo
      go_wp2_with fail
      go_roundw
      case rel => exact ⟨k + 1, by omega, by go_num, hf.out, hB1⟩
      case measure => simp [intOf]; omega
    · obtain rfl : k = n := by omega
      have hdl : decide ((k : Int) < k) = false := by simp
      have HV : Hid (∀ (i : Nat) (r : Rg), L[i]? = some r → r.p = i ∧ refR mem r) := fun i x hx => hv.out i x (by have := (List.getElem?_eq_some_iff.1 hx).1; rw [HL.out] at this; exact this) hx
      have HC : Hid (∀ (x : Rg) (at' : Int) (W : World), _) := fun x at' W => contains_any x at' W
      clear hv
      go_wp2_with fail
      go_loopw [7] (fun i wx => ∃ a : Nat, (a : Int) ≤ mem ∧ i = .int .i64 a ∧ Hid (∀ at' : Nat, at' < a → L.countP (inR at') ≤ 1) ∧ Below w.heap.size w wx)
        (fun i _ => mem.toNat - (intOf i).toNat)
      case atStart => exact ⟨0, by omega, rfl, fun i hi => absurd hi (Nat.not_lt_zero i), hB⟩
      case round =>
        clear hB hdl
        obtain ⟨a, ha, rfl, hv, hB⟩ := hrel
        by_cases hla : (a : Int) < mem
        · have hda : decide ((a : Int) < mem) = true := decide_eq_true hla
          go_wp2_with fail
          go_loopw [8, 9] (fun m i wy => ∃ j : Nat, j ≤ k ∧ i = .int .i64 j ∧ m = .int .i64 ((L.take j).countP (inR a) : Nat) ∧ Below w.heap.size w wy)
            (fun _ i _ => k - (intOf i).toNat)
          case atStart => exact ⟨0, Nat.zero_le _, rfl, by simp, hB⟩
          case round =>
            clear hB
            obtain ⟨j, hj, rfl, rfl, hB⟩ := hrel
            by_cases hlt : j < k
            · have hx : L[j]? = some (L[j]'(by rw [HL.out]; exact hlt)) := List.getElem?_eq_getElem _
              obtain ⟨x, hxe⟩ : ∃ x, L[j]'(by rw [HL.out]; exact hlt) = x := ⟨_, rfl⟩
              rw [hxe] at hx
              obtain ⟨ab, ao, rfl, hal, c0, c1, c2⟩ := isG.at (HA.out.keep hB) hx
              have hdl : decide ((j : Int) < k) = true := by simp; omega
              have hld := load_rg ⟨c0, c1, c2⟩
              have HCx := Lib.hid (HC.out x a wr)
              have hct := Lib.hid (count_take (q := inR a) hx)
              have hle : (L.take j).countP (inR a) ≤ j := Nat.le_trans List.countP_le_length (by rw [List.length_take]; omega)
              generalize (L.take j).countP (inR a) = m at *
              generalize inR a x = q at *
              clear hx hxe
              simp only [rgV] at *
              go_wp2_with fail
              (with_reducible refine (HCx.out).mono ?_); rintro _ w1 ⟨rfl, hb1⟩
              have hB1 := hB.trans (hb1.mono hB.size)
              clear hb1 HCx c0 c1 c2 hld
              cases q with
              | true =>
                go_wp2_with fail
                go_roundw
                case rel => exact ⟨j + 1, by omega, by go_num, by rw [hct.out]; go_num, hB1⟩
                case measure => simp [intOf]; omega
              | false =>
                go_wp2_with fail
                go_roundw
                case rel => exact ⟨j + 1, by omega, by go_num, by rw [hct.out]; go_num, hB1⟩
                case measure => simp [intOf]; omega
            · obtain rfl : j = k := by omega
              have hdl : decide ((j : Int) < j) = false := by simp
              have htk := Lib.hid (take_n HL.out)
              have hct : Hid ((L.take j).countP (inR a) = L.countP (inR a)) := by unfold Hid; rw [htk.out]
              have hle : (L.take j).countP (inR a) ≤ j := Nat.le_trans List.countP_le_length (by rw [List.length_take]; omega)
              have Hno : Hid (1 < (L.take j).countP (inR a) → r = false) := fun h => HN.out fun v => by
                have := v.2.2.2 a hla
                rw [hct.out] at h
                omega
              have Hgo : Hid ((L.take j).countP (inR a) ≤ 1 → ∀ at' : Nat, at' < a + 1 → L.countP (inR at') ≤ 1) := fun h i hi => by
                rcases Nat.lt_succ_iff_lt_or_eq.1 hi with h1 | rfl
                · exact hv.out i h1
                · rw [← hct.out]; exact h
              generalize (L.take j).countP (inR a) = m at *
              by_cases h1 : 1 < m
              · have hf := Lib.hid (Hno.out h1)
                have hd1 : decide ((1 : Int) < m) = true := by simp; omega
                go_wp2_with fail
                go_ret
                exact ⟨by rw [hf.out]; rfl, hB⟩
              · have hf := Lib.hid (Hgo.out (by omega))
                have hd1 : decide ((1 : Int) < m) = false := by simp; omega
                go_wp2_with fail
                go_roundw
                case rel => exact ⟨a + 1, by omega, by go_num, hf.out, hB⟩
                case measure => simp [intOf]; omega
        · have hda : decide ((a : Int) < mem) = false := decide_eq_false hla
          have hf := Lib.hid (HY.out ⟨Hsz.out, by omega, HV.out, fun at' hat => hv.out at' (by omega)⟩)
          go_wp2_with fail
          go_ret
          exact ⟨by rw [hf.out]; rfl, hB⟩
end Me
end Go.Proofs.Ytdhofaiogbpjpaa
