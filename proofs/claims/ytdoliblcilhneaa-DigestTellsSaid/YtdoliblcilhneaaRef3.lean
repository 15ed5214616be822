/- The contract of the reference's Parse. -/
import Derived.Test.YtdoliblcilhneaaRef2
namespace Go.Proofs.Ytdoliblcilhneaa
open Go.RowKit Go.Joins

theorem nib_add (d : BitVec 64) (v : BitVec 8) (hv : v.toNat < 16) : (d <<< 4) + v.setWidth 64 = (d <<< 4) ||| v.setWidth 64 := by
  apply BitVec.add_eq_or_of_and_eq_zero
  apply BitVec.eq_of_getLsbD_eq
  intro i hi
  simp only [BitVec.getLsbD_and, BitVec.getLsbD_shiftLeft, BitVec.getLsbD_setWidth, BitVec.getLsbD_zero]
  by_cases h : i < 4
  · simp [h]
  · have : v.getLsbD i = false := by
      unfold BitVec.getLsbD
      apply Nat.testBit_lt_two_pow
      have : 2 ^ 4 ≤ 2 ^ i := Nat.pow_le_pow_right (by decide) (by omega)
      omega
    simp [this]
theorem prs_bad {l : List (BitVec 8)} (h : okL l = false) : prs l = (0#64, 50) := by unfold prs; rw [h]; rfl

/-- What a round's digit gives. -/
theorem dig_val (c : BitVec 8) (h : good c = true) : (48 ≤ c.toNat ∧ c.toNat ≤ 57 ∧ ((c.toNat : Int) - 48 = ((hv c).toNat : Int))) ∨ (97 ≤ c.toNat ∧ c.toNat ≤ 102 ∧ ((c.toNat : Int) - 97 + 10 = ((hv c).toNat : Int))) := by
  unfold good at h
  rw [decide_eq_true_eq] at h
  rcases h with ⟨h1, h2⟩ | ⟨h1, h2⟩
  · left
    refine ⟨h1, h2, ?_⟩
    unfold hv
    rw [if_pos h2]
    exact sub8 c 48#8 h1
  · right
    refine ⟨h1, h2, ?_⟩
    unfold hv
    rw [if_neg (by omega), ← sub8 c 87#8 (by show 87 ≤ _; omega)]
    show (c.toNat : Int) - 97 + 10 = c.toNat - 87
    omega

set_option maxRecDepth 100000 in
set_option maxHeartbeats 2000000 in
theorem rparse_any (l : List (BitVec 8)) (hlen : l.length ≤ 4611686018427387904) (w : World) :
    Calls Try.prog 13 #[.string (bstr l)] w fun e w' => e = .returned (.tuple #[U64 (prs l).1, .int .i64 (prs l).2]) ∧ w' = w := by
  have hbs := bstr_size l
  by_cases h16 : l.length = 16
  · have H16 := Lib.hid h16
    have hix : Hid (∀ (k : Nat) (z : BitVec 8), l[k]? = some z → ∀ w, (Instr.index 9 (.string (bstr l)) (.int .i64 k)).run Try.prog w = .ok (U8 z) w) := fun k z h w => index_bstr l k z h w
    rw [h16] at hbs
    clear h16 hlen
    generalize hS : bstr l = S at hbs hix
    clear hS
    go_enter Try.func13, Try.ntmps13
    go_wp2_with fail
    go_loop [4, 5] (fun r i => ∃ k : Nat, k ≤ 16 ∧ i = .int .i64 k ∧ r = U64 (numL ((l.map hv).take k)) ∧ Hid (∀ (j : Nat) z, j < k → l[j]? = some z → good z = true))
      (fun _ i => 16 - (intOf i).toNat)
    case atStart => exact ⟨0, by omega, rfl, rfl, fun j z h => absurd h (Nat.not_lt_zero j)⟩
    case round =>
      obtain ⟨k, hk, rfl, rfl, hgo⟩ := hrel
      by_cases hlt : k < 16
      · have hd : decide ((k : Int) < 16) = true := by simp; omega
        have hgk : l[k]? = some (l[k]'(by rw [H16.out]; exact hlt)) := List.getElem?_eq_getElem _
        obtain ⟨c, hc⟩ : ∃ c, l[k]'(by rw [H16.out]; exact hlt) = c := ⟨_, rfl⟩
        rw [hc] at hgk
        have hi := hix.out k c hgk
        have hc255 := c.isLt
        by_cases hg : good c = true
        · have hg1 : Hid (∀ (j : Nat) z, j < k + 1 → l[j]? = some z → good z = true) := fun j z hj hz => by
            by_cases e : j = k
            · subst e; rw [hgk] at hz; cases hz; exact hg
            · exact hgo.out j z (by omega) hz
          have hv16 : (hv c).toNat < 16 := (chr_hv hg).2
          have hts : Hid (numL ((l.map hv).take (k + 1)) = (numL ((l.map hv).take k) <<< 4) + (hv c).setWidth 64) := by
            unfold Hid
            rw [take_snoc' (x := hv c) (by rw [List.getElem?_map, hgk]; rfl), numL_snoc, nib_add _ _ hv16]
          have hval := dig_val c hg
          generalize numL ((l.map hv).take k) = r at hts ⊢
          generalize hv c = v at hts hval hv16
          have e1 := shl64 r 4 16 (by decide)
          rw [Int.mul_comm] at e1
          have e2 := add64 (r <<< 4) (v.setWidth 64)
          rw [← wide v] at e2
          rw [← hts.out] at e2
          have hts2 : Hid (numL ((l.map hv).take (k + 1)) = numL ((l.map hv).take (k + 1))) := rfl
          obtain ⟨y, hy⟩ : ∃ y, numL ((l.map hv).take (k + 1)) = y := ⟨_, rfl⟩
          rw [hy] at e2
          have HY := Lib.hid hy
          generalize r <<< 4 = z at e1 e2
          have hvb : ((v.toNat : Int) == 16) = false := by rw [beq_eq_false_iff_ne]; omega
          clear hgk hc hgo hix hy hts hts2 hg
          rcases hval with ⟨h, h', hq⟩ | ⟨h, h', hq⟩
          · have q1 : decide ((48 : Int) ≤ c.toNat) = true := by simp; omega
            have q2 : decide ((c.toNat : Int) ≤ 57) = true := by simp; omega
            have q3 : decide ((97 : Int) ≤ c.toNat) = false := by simp; omega
            go_wp2_with fail
            go_round
            case rel => exact ⟨k + 1, by omega, by go_num, by rw [HY.out], hg1⟩
            case measure => simp [intOf]; omega
          · have q1 : decide ((48 : Int) ≤ c.toNat) = true := by simp; omega
            have q2 : decide ((c.toNat : Int) ≤ 57) = false := by simp; omega
            have q3 : decide ((97 : Int) ≤ c.toNat) = true := by simp; omega
            have q4 : decide ((c.toNat : Int) ≤ 102) = true := by simp; omega
            go_wp2_with fail
            go_round
            case rel => exact ⟨k + 1, by omega, by go_num, by rw [HY.out], hg1⟩
            case measure => simp [intOf]; omega
        · have hp : Hid (prs l = (0#64, 50)) := prs_bad (okL_bad hgk (by simpa using hg))
          have hcs : c.toNat < 48 ∨ (58 ≤ c.toNat ∧ c.toNat ≤ 96) ∨ 103 ≤ c.toNat := by
            unfold good at hg
            rw [decide_eq_true_eq] at hg
            omega
          clear hgk hc hgo hix hg
          generalize numL ((l.map hv).take k) = r
          rcases hcs with h | ⟨h, h'⟩ | h
          · have q1 : decide ((48 : Int) ≤ c.toNat) = false := by simp; omega
            have q3 : decide ((97 : Int) ≤ c.toNat) = false := by simp; omega
            go_wp2_with fail
            go_ret2
            exact ⟨by rw [hp.out]; rfl, rfl⟩
          · have q1 : decide ((48 : Int) ≤ c.toNat) = true := by simp; omega
            have q2 : decide ((c.toNat : Int) ≤ 57) = false := by simp; omega
            have q3 : decide ((97 : Int) ≤ c.toNat) = false := by simp; omega
            go_wp2_with fail
            go_ret2
            exact ⟨by rw [hp.out]; rfl, rfl⟩
          · have q1 : decide ((48 : Int) ≤ c.toNat) = true := by simp; omega
            have q2 : decide ((c.toNat : Int) ≤ 57) = false := by simp; omega
            have q3 : decide ((97 : Int) ≤ c.toNat) = true := by simp; omega
            have q4 : decide ((c.toNat : Int) ≤ 102) = false := by simp; omega
            go_wp2_with fail
            go_ret2
            exact ⟨by rw [hp.out]; rfl, rfl⟩
      · obtain rfl : k = 16 := by omega
        have hok : okL l = true := okL_all H16.out fun j z hj => hgo.out j z (by
          have := (List.getElem?_eq_some_iff.1 hj).1
          rw [H16.out] at this; exact this) hj
        have hp : Hid (prs l = (numL (l.map hv), 0)) := by unfold Hid prs; rw [hok]; rfl
        rw [List.take_of_length_le (by rw [List.length_map, H16.out]; omega)]
        generalize numL (l.map hv) = r at hp ⊢
        clear hgo hix hok
        go_wp2_with fail
        go_ret2
        exact ⟨by rw [hp.out]; rfl, rfl⟩
  · have hp : Hid (prs l = (0#64, 50)) := prs_bad (okL_len h16)
    have hn : ((l.length : Int) != 16) = true := by rw [bne_iff_ne]; omega
    have hn2 : ((l.length : Int) == 16) = false := by rw [beq_eq_false_iff_ne]; omega
    by_cases h0 : l.length = 0
    · obtain rfl := List.eq_nil_of_length_eq_zero h0
      clear h0 h16 hn hn2
      go_enter Try.func13, Try.ntmps13
      go_wp2_with fail
      go_loop [4, 5] (fun r i => r = .int .u64 0 ∧ i = .int .i64 0) (fun _ i => 16 - (intOf i).toNat)
      case atStart => exact ⟨rfl, rfl⟩
      case round =>
        obtain ⟨rfl, rfl⟩ := hrel
        go_wp2_with fail
        go_ret2
        exact ⟨by rw [hp.out]; rfl, rfl⟩
    · have hgk : l[0]? = some (l[0]'(by omega)) := List.getElem?_eq_getElem _
      obtain ⟨c, hc⟩ : ∃ c, l[0]'(by omega) = c := ⟨_, rfl⟩
      rw [hc] at hgk
      have hi : ∀ w, (Instr.index 9 (.string (bstr l)) (.int .i64 0)).run Try.prog w = .ok (U8 c) w := index_bstr l 0 c hgk
      have hd : decide ((0 : Int) < l.length) = true := by simp; omega
      have hc255 := c.isLt
      clear hgk hc h16
      generalize hS : bstr l = S at hbs hi
      clear hS
      go_enter Try.func13, Try.ntmps13
      go_wp2_with fail
      go_loop [4, 5] (fun r i => r = .int .u64 0 ∧ i = .int .i64 0) (fun _ i => 16 - (intOf i).toNat)
      case atStart => exact ⟨rfl, rfl⟩
      case round =>
        obtain ⟨rfl, rfl⟩ := hrel
        rcases (by omega : c.toNat < 48 ∨ (48 ≤ c.toNat ∧ c.toNat ≤ 57) ∨ (58 ≤ c.toNat ∧ c.toNat ≤ 96) ∨ (97 ≤ c.toNat ∧ c.toNat ≤ 102) ∨ 103 ≤ c.toNat) with h | ⟨h, h'⟩ | ⟨h, h'⟩ | ⟨h, h'⟩ | h
        · have q1 : decide ((48 : Int) ≤ c.toNat) = false := by simp; omega
          have q3 : decide ((97 : Int) ≤ c.toNat) = false := by simp; omega
          go_wp2_with fail
          all_goals
            go_ret2
            exact ⟨by rw [hp.out]; rfl, rfl⟩
        · have q1 : decide ((48 : Int) ≤ c.toNat) = true := by simp; omega
          have q2 : decide ((c.toNat : Int) ≤ 57) = true := by simp; omega
          have q3 : decide ((97 : Int) ≤ c.toNat) = false := by simp; omega
          have q5 : ((c.toNat : Int) - 48 == 16) = false := by rw [beq_eq_false_iff_ne]; omega
          go_wp2_with fail
          all_goals
            go_ret2
            exact ⟨by rw [hp.out]; rfl, rfl⟩
        · have q1 : decide ((48 : Int) ≤ c.toNat) = true := by simp; omega
          have q2 : decide ((c.toNat : Int) ≤ 57) = false := by simp; omega
          have q3 : decide ((97 : Int) ≤ c.toNat) = false := by simp; omega
          go_wp2_with fail
          all_goals
            go_ret2
            exact ⟨by rw [hp.out]; rfl, rfl⟩
        · have q1 : decide ((48 : Int) ≤ c.toNat) = true := by simp; omega
          have q2 : decide ((c.toNat : Int) ≤ 57) = false := by simp; omega
          have q3 : decide ((97 : Int) ≤ c.toNat) = true := by simp; omega
          have q4 : decide ((c.toNat : Int) ≤ 102) = true := by simp; omega
          have q5 : ((c.toNat : Int) - 97 + 10 == 16) = false := by rw [beq_eq_false_iff_ne]; omega
          go_wp2_with fail
          all_goals
            go_ret2
            exact ⟨by rw [hp.out]; rfl, rfl⟩
        · have q1 : decide ((48 : Int) ≤ c.toNat) = true := by simp; omega
          have q2 : decide ((c.toNat : Int) ≤ 57) = false := by simp; omega
          have q3 : decide ((97 : Int) ≤ c.toNat) = true := by simp; omega
          have q4 : decide ((c.toNat : Int) ≤ 102) = false := by simp; omega
          go_wp2_with fail
          all_goals
            go_ret2
            exact ⟨by rw [hp.out]; rfl, rfl⟩
end Go.Proofs.Ytdoliblcilhneaa
