/- The contracts of the reference's Number, Place and Join. -/
import Derived.Test.YtbpncbomcdpogaaRefA
namespace Go.Proofs.Ytbpncbomcdpogaa
open Go.RowKit Go.Joins

set_option maxRecDepth 100000 in
set_option maxHeartbeats 4000000 in
theorem rnumber_any (c : BitVec 8) (t : List (BitVec 8)) (hl : t.length ≤ 1000000000) (w : World) :
    Calls Try.prog 34 #[.string (bstr (c :: t))] w fun e w' => (∃ v, e = .returned (.tuple #[v, .bool (numOk (c :: t))])) ∧ w' = w := by
  have hD : Hid (∀ (z : BitVec 8) (W : World), _) := fun z W => rdig_any z W
  obtain ⟨s, hse⟩ : ∃ s, c :: t = s := ⟨_, rfl⟩
  have hln : s.length = t.length + 1 := by rw [← hse]; rfl
  have hbs := bstr_size s
  have hc0 : Hid (s[0]? = some c) := by unfold Hid; rw [← hse]; rfl
  have hix : Hid (∀ (k : Nat) (z : BitVec 8), s[k]? = some z → ∀ w, (Instr.index 9 (.string (bstr s)) (.int .i64 k)).run Try.prog w = .ok (U8 z) w) := fun k z h w => index_bstr s k z h w
  have hN : Hid (numOk s = (!(decide (c = 48#8) && decide (1 < s.length)) && numF 0 s)) := by
    unfold Hid numOk
    rw [show s.head? = some c by rw [← hse]; rfl]
    rfl
  rw [hse]
  obtain ⟨S, hS⟩ : ∃ S, bstr s = S := ⟨_, rfl⟩
  rw [hS] at hbs hix ⊢
  clear hse hS
  go_enter Try.func34, Try.ntmps34
  go_wp2_with fail
  go_loopw [4, 5] (fun v i wx => ∃ j n : Nat, j ≤ s.length ∧ i = .int .i64 j ∧ v = .int .i64 n ∧ n ≤ 1073741824 ∧ numF n (s.drop j) = numF 0 s ∧ (j = 0 → n = 0) ∧ (1 ≤ j → (n = 0 ↔ c = 48#8)) ∧ (2 ≤ j → n ≠ 0) ∧ wx = w)
    (fun _ i _ => s.length - (intOf i).toNat)
  case atStart => exact ⟨0, 0, by omega, rfl, rfl, by omega, rfl, fun _ => rfl, fun h => by omega, fun h => by omega, rfl⟩
  case round =>
    obtain ⟨j, n, hj, rfl, rfl, hn, hf, g0, g1, g2, rfl⟩ := hrel
    by_cases hlt : j < s.length
    · have hgk : s[j]? = some s[j] := List.getElem?_eq_getElem hlt
      obtain ⟨z, hz⟩ : ∃ z, s[j] = z := ⟨_, rfl⟩
      rw [hz] at hgk
      have hi := fun W => hix.out j z hgk W
      have hnf := numF_at (v := n) hgk
      have hD' : Hid (∀ W : World, _) := fun W => hD.out z W
      cases hd : isDig z with
      | false =>
        rw [hd] at hD' hnf
        rw [hnf, Bool.false_and] at hf
        have HF : Hid (numOk s = false) := by unfold Hid; rw [hN.out, ← hf, Bool.and_false]
        clear hf hnf hgk hd hz hD hix g0 g1 g2
        go_wp2_with fail
        (with_reducible refine (hD'.out _).mono ?_); rintro e w1 ⟨rfl, rfl⟩
        go_wp2_with fail
        go_ret2
        exact ⟨⟨_, by rw [HF.out]; rfl⟩, rfl⟩
      | true =>
        rw [hd] at hD' hnf
        obtain ⟨l1, l2⟩ := isDig_ge hd
        have e1 : (z.toNat : Int) - 48 = ((z.toNat - 48 : Nat) : Int) := by omega
        have e2 : z.toNat - 48 ≤ 9 := by omega
        have e3 : z.toNat - 48 = 0 ↔ z = 48#8 := by
          constructor
          · intro h; apply BitVec.eq_of_toNat_eq; show _ = 48; omega
          · rintro rfl; rfl
        rw [hnf, Bool.true_and] at hf
        have hzc : j = 0 → z = c := by
          rintro rfl
          have := hc0.out
          rw [this] at hgk; cases hgk; rfl
        generalize z.toNat - 48 = d at e1 e2 e3 hf
        clear hnf hd hD hix hgk hz
        by_cases hbad : 1 ≤ j ∧ n = 0
        · have hc48 := (g1 hbad.1).1 hbad.2
          have HF : Hid (numOk s = false) := by
            unfold Hid; rw [hN.out, decide_eq_true hc48, decide_eq_true (by omega)]; rfl
          obtain ⟨hj1, rfl⟩ := hbad
          have hjd : decide (0 < j) = true := by simp; omega
          have hjd2 : decide ((0 : Int) < (j : Int)) = true := by simp; omega
          clear hf g0 g1 g2 e1 e2 e3 hzc hc48
          go_wp2_with fail
          (with_reducible refine (hD'.out _).mono ?_); rintro e w1 ⟨rfl, rfl⟩
          go_wp2_with fail
          go_ret2
          exact ⟨⟨_, by rw [HF.out]; rfl⟩, rfl⟩
        · by_cases hbig : 10 * n + d ≤ 1073741824
          · rw [decide_eq_true hbig, Bool.true_and] at hf
            have HF := Lib.hid hf
            have hbig2 : n * 10 + d ≤ 1073741824 := by omega
            have hg1 : Hid (1 ≤ j + 1 → (10 * n + d = 0 ↔ c = 48#8)) := fun _ => by
              by_cases hj0 : j = 0
              · have := g0 hj0
                rw [this, ← hzc hj0, show 10 * 0 + d = d by omega]; exact e3
              · have h1 := g1 (by omega)
                have hn0 : n ≠ 0 := fun h => hbad ⟨by omega, h⟩
                constructor
                · intro h; omega
                · intro h; exact absurd (h1.2 h) hn0
            have hg2 : Hid (2 ≤ j + 1 → 10 * n + d ≠ 0) := fun h => by
              have : n ≠ 0 := fun h' => hbad ⟨by omega, h'⟩
              omega
            rcases (by omega : j = 0 ∨ (1 ≤ j ∧ n ≠ 0)) with hj0 | ⟨hj1, hn0⟩
            · have hjd : decide (0 < j) = false := by simp; omega
              have hjd2 : decide ((0 : Int) < (j : Int)) = false := by simp; omega
              clear hf hbad g0 g1 g2 hzc e3 hj0
              go_wp2_with fail
              (with_reducible refine (hD'.out _).mono ?_); rintro e w1 ⟨rfl, rfl⟩
              go_wp2_with fail
              go_roundw
              case rel => exact ⟨j + 1, 10 * n + d, by omega, by go_num, by first | go_num | (congr 1; omega), hbig, HF.out, fun h => (by omega), hg1.out, hg2.out, by first | rfl | trivial⟩
              case measure => simp [intOf]; omega
            · have hjd : decide (0 < j) = true := by simp; omega
              have hjd2 : decide ((0 : Int) < (j : Int)) = true := by simp; omega
              have hnz : ((n : Int) == 0) = false := by rw [beq_eq_false_iff_ne]; omega
              clear hf hbad g0 g1 g2 hzc e3
              go_wp2_with fail
              (with_reducible refine (hD'.out _).mono ?_); rintro e w1 ⟨rfl, rfl⟩
              go_wp2_with fail
              go_roundw
              case rel => exact ⟨j + 1, 10 * n + d, by omega, by go_num, by first | go_num | (congr 1; omega), hbig, HF.out, fun h => (by omega), hg1.out, hg2.out, by first | rfl | trivial⟩
              case measure => simp [intOf]; omega
          · rw [decide_eq_false hbig, Bool.false_and] at hf
            have HF : Hid (numOk s = false) := by unfold Hid; rw [hN.out, ← hf, Bool.and_false]
            have hbig2 : ¬ n * 10 + d ≤ 1073741824 := by omega
            rcases (by omega : j = 0 ∨ (1 ≤ j ∧ n ≠ 0)) with hj0 | ⟨hj1, hn0⟩
            · have hn00 := g0 hj0
              exfalso; omega
            · have hjd : decide (0 < j) = true := by simp; omega
              have hjd2 : decide ((0 : Int) < (j : Int)) = true := by simp; omega
              have hnz : ((n : Int) == 0) = false := by rw [beq_eq_false_iff_ne]; omega
              clear hf hbad g0 g1 g2 hzc e3
              go_wp2_with fail
              (with_reducible refine (hD'.out _).mono ?_); rintro e w1 ⟨rfl, rfl⟩
              go_wp2_with fail
              go_ret2
              exact ⟨⟨_, by rw [HF.out]; rfl⟩, rfl⟩
    · obtain rfl : j = s.length := by omega
      rw [List.drop_length] at hf
      have HF : Hid (numOk s = true) := by
        unfold Hid; rw [hN.out, ← hf]
        have h1 := g1 (by omega)
        by_cases hc : c = 48#8
        · have h2 : ¬ 1 < s.length := fun h => g2 (by omega) (h1.2 hc)
          rw [decide_eq_false h2, Bool.and_false]; rfl
        · rw [decide_eq_false hc]; rfl
      have hsl : decide ((0 : Int) < (s.length : Int)) = true := by simp; omega
      have hsl2 : decide (0 < s.length) = true := by simp; omega
      clear hf hD hix g0 g1 g2
      go_wp2_with fail
      go_ret2
      exact ⟨⟨_, by rw [HF.out]; rfl⟩, rfl⟩
end Go.Proofs.Ytbpncbomcdpogaa
