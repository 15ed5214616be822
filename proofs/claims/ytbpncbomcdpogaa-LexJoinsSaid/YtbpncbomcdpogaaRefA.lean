/- The contracts of the reference's small functions. -/
import Derived.Test.YtbpncbomcdpogaaAwake
namespace Go.Proofs.Ytbpncbomcdpogaa
open Go.RowKit Go.Joins

set_option maxRecDepth 100000 in
theorem rlet_any (c : BitVec 8) (w : World) :
    Calls Try.prog 30 #[U8 c] w fun e w' => e = .returned (.bool (isLet c)) ∧ w' = w := by
  have hr2 : isLet c = ((decide ((97 : Int) ≤ c.toNat) && decide ((c.toNat : Int) ≤ 122)) || (decide ((65 : Int) ≤ c.toNat) && decide ((c.toNat : Int) ≤ 90))) := by
    unfold isLet; rw [Bool.decide_and, Bool.decide_and]
    rw [show (97 : Int) = ((97 : Nat) : Int) from rfl, show (122 : Int) = ((122 : Nat) : Int) from rfl, show (65 : Int) = ((65 : Nat) : Int) from rfl, show (90 : Int) = ((90 : Nat) : Int) from rfl, dec_le, dec_ge, dec_le, dec_ge]
  obtain ⟨x1, h1⟩ : ∃ x, decide ((97 : Int) ≤ c.toNat) = x := ⟨_, rfl⟩
  obtain ⟨x2, h2⟩ : ∃ x, decide ((c.toNat : Int) ≤ 122) = x := ⟨_, rfl⟩
  obtain ⟨x3, h3⟩ : ∃ x, decide ((65 : Int) ≤ c.toNat) = x := ⟨_, rfl⟩
  obtain ⟨x4, h4⟩ : ∃ x, decide ((c.toNat : Int) ≤ 90) = x := ⟨_, rfl⟩
  rw [h1, h2, h3, h4] at hr2
  have H3 := Lib.hid hr2
  generalize isLet c = r at *
  clear hr2
  go_enter Try.func30, Try.ntmps30
  cases x1 <;> cases x2 <;> cases x3 <;> cases x4
  all_goals
    go_wp2_with fail
    go_ret
    exact ⟨by rw [H3.out]; rfl, rfl⟩

set_option maxRecDepth 100000 in
theorem rdig_any (c : BitVec 8) (w : World) :
    Calls Try.prog 31 #[U8 c] w fun e w' => e = .returned (.bool (isDig c)) ∧ w' = w := by
  have hr2 : isDig c = (decide ((48 : Int) ≤ c.toNat) && decide ((c.toNat : Int) ≤ 57)) := by
    unfold isDig; rw [Bool.decide_and]
    rw [show (48 : Int) = ((48 : Nat) : Int) from rfl, show (57 : Int) = ((57 : Nat) : Int) from rfl, dec_le, dec_ge]
  obtain ⟨x1, h1⟩ : ∃ x, decide ((48 : Int) ≤ c.toNat) = x := ⟨_, rfl⟩
  obtain ⟨x2, h2⟩ : ∃ x, decide ((c.toNat : Int) ≤ 57) = x := ⟨_, rfl⟩
  rw [h1, h2] at hr2
  have H3 := Lib.hid hr2
  generalize isDig c = r at *
  clear hr2
  go_enter Try.func31, Try.ntmps31
  cases x1 <;> cases x2
  all_goals
    go_wp2_with fail
    go_ret
    exact ⟨by rw [H3.out]; rfl, rfl⟩

set_option maxRecDepth 100000 in
set_option maxHeartbeats 1000000 in
theorem rinner_any (c : BitVec 8) (w : World) :
    Calls Try.prog 32 #[U8 c] w fun e w' => e = .returned (.bool (isIn c)) ∧ w' = w := by
  obtain ⟨x1, h1⟩ : ∃ x, isLet c = x := ⟨_, rfl⟩
  obtain ⟨x2, h2⟩ : ∃ x, isDig c = x := ⟨_, rfl⟩
  obtain ⟨x3, h3⟩ : ∃ x, ((c.toNat : Int) == 95) = x := ⟨_, rfl⟩
  have hI : Hid (isIn c = (x1 || x2 || x3)) := by
    unfold Hid isIn
    have := beq_bv c 95#8
    rw [show (((95#8 : BitVec 8)).toNat : Int) = 95 from rfl, h3] at this
    rw [h1, h2, this]; rfl
  have hL : Hid (∀ W : World, _) := fun W => rlet_any c W
  have hD : Hid (∀ W : World, _) := fun W => rdig_any c W
  rw [h1] at hL
  rw [h2] at hD
  generalize isIn c = r at hI ⊢
  clear h1 h2
  go_enter Try.func32, Try.ntmps32
  cases x1 <;> cases x2 <;> cases x3
  all_goals
    go_wp2_with fail
    (with_reducible refine (hL.out _).mono ?_); rintro e w1 ⟨rfl, rfl⟩
    go_wp2_with fail
    try ((with_reducible refine (hD.out _).mono ?_); rintro e w1 ⟨rfl, rfl⟩; go_wp2_with fail)
    go_ret
    exact ⟨by rw [hI.out]; rfl, rfl⟩

set_option maxRecDepth 100000 in
set_option maxHeartbeats 1000000 in
theorem rsign_any (c : BitVec 8) (w : World) :
    Calls Try.prog 29 #[U8 c] w fun e w' => e = .returned (.bool (isSgn c)) ∧ w' = w := by
  have q1 := beq_bv c 123#8
  rw [show (((123#8 : BitVec 8)).toNat : Int) = 123 from rfl] at q1
  obtain ⟨x1, h1⟩ : ∃ x, (c == 123#8) = x := ⟨_, rfl⟩
  rw [show decide (c = 123#8) = (c == 123#8) from rfl, h1] at q1
  have q2 := beq_bv c 125#8
  rw [show (((125#8 : BitVec 8)).toNat : Int) = 125 from rfl] at q2
  obtain ⟨x2, h2⟩ : ∃ x, (c == 125#8) = x := ⟨_, rfl⟩
  rw [show decide (c = 125#8) = (c == 125#8) from rfl, h2] at q2
  have q3 := beq_bv c 59#8
  rw [show (((59#8 : BitVec 8)).toNat : Int) = 59 from rfl] at q3
  obtain ⟨x3, h3⟩ : ∃ x, (c == 59#8) = x := ⟨_, rfl⟩
  rw [show decide (c = 59#8) = (c == 59#8) from rfl, h3] at q3
  have q4 := beq_bv c 44#8
  rw [show (((44#8 : BitVec 8)).toNat : Int) = 44 from rfl] at q4
  obtain ⟨x4, h4⟩ : ∃ x, (c == 44#8) = x := ⟨_, rfl⟩
  rw [show decide (c = 44#8) = (c == 44#8) from rfl, h4] at q4
  have q5 := beq_bv c 46#8
  rw [show (((46#8 : BitVec 8)).toNat : Int) = 46 from rfl] at q5
  obtain ⟨x5, h5⟩ : ∃ x, (c == 46#8) = x := ⟨_, rfl⟩
  rw [show decide (c = 46#8) = (c == 46#8) from rfl, h5] at q5
  have q6 := beq_bv c 58#8
  rw [show (((58#8 : BitVec 8)).toNat : Int) = 58 from rfl] at q6
  obtain ⟨x6, h6⟩ : ∃ x, (c == 58#8) = x := ⟨_, rfl⟩
  rw [show decide (c = 58#8) = (c == 58#8) from rfl, h6] at q6
  have hI : Hid (isSgn c = (x1 || x2 || x3 || x4 || x5 || x6)) := by unfold Hid isSgn; rw [h1, h2, h3, h4, h5, h6]
  generalize isSgn c = r at hI ⊢
  clear h1 h2 h3 h4 h5 h6
  go_enter Try.func29, Try.ntmps29
  cases x1 with
  | true =>
    go_wp2_with fail
    go_ret
    exact ⟨by rw [hI.out]; simp, rfl⟩
  | false =>
    cases x2 with
    | true =>
      go_wp2_with fail
      go_ret
      exact ⟨by rw [hI.out]; simp, rfl⟩
    | false =>
      cases x3 with
      | true =>
        go_wp2_with fail
        go_ret
        exact ⟨by rw [hI.out]; simp, rfl⟩
      | false =>
        cases x4 with
        | true =>
          go_wp2_with fail
          go_ret
          exact ⟨by rw [hI.out]; simp, rfl⟩
        | false =>
          cases x5 with
          | true =>
            go_wp2_with fail
            go_ret
            exact ⟨by rw [hI.out]; simp, rfl⟩
          | false =>
            cases x6 with
            | true =>
              go_wp2_with fail
              go_ret
              exact ⟨by rw [hI.out]; simp, rfl⟩
            | false =>
              go_wp2_with fail
              go_ret
              exact ⟨by rw [hI.out]; rfl, rfl⟩

set_option maxRecDepth 100000 in
set_option maxHeartbeats 2000000 in
/-- A text that begins with a letter and goes on with letters, digits and underscores. -/
theorem rname_any (c : BitVec 8) (t : List (BitVec 8)) (hc : isLet c = true) (ht : ∀ d ∈ t, isIn d = true) (hl : t.length ≤ 1000000000) (w : World) :
    Calls Try.prog 33 #[.string (bstr (c :: t))] w fun e w' => e = .returned (.bool (decide (t.length + 1 ≤ 24))) ∧ w' = w := by
  obtain ⟨s, hse⟩ : ∃ s, c :: t = s := ⟨_, rfl⟩
  have hln : s.length = t.length + 1 := by rw [← hse]; rfl
  have hbs := bstr_size s
  rw [hln] at hbs
  have hc0 : s[0]? = some c := by rw [← hse]; rfl
  have hin : Hid (∀ (k : Nat) (z : BitVec 8), s[k]? = some z → isIn z = true) := fun k z h => by
    rw [← hse] at h
    cases k with
    | zero => cases h; unfold isIn; rw [hc]; rfl
    | succ k => exact ht z (List.mem_of_getElem? (by simpa using h))
  have HX : Hid (∀ (k : Nat) (z : BitVec 8), s[k]? = some z → ∀ w, (Instr.index 9 (.string (bstr s)) (.int .i64 k)).run Try.prog w = .ok (U8 z) w) := fun k z h w => index_bstr s k z h w
  have hi0 := fun W => HX.out 0 c hc0 W
  rw [show ((0 : Nat) : Int) = 0 from rfl] at hi0
  have hL : Hid (∀ W : World, _) := fun W => rlet_any c W
  rw [hc] at hL
  rw [hse]
  obtain ⟨S, hS⟩ : ∃ S, bstr s = S := ⟨_, rfl⟩
  rw [hS] at hbs HX hi0 ⊢
  clear hS hse hc ht
  have hd0 : (((t.length : Int) + 1) == 0) = false := by rw [beq_eq_false_iff_ne]; omega
  go_enter Try.func33, Try.ntmps33
  by_cases h24 : t.length + 1 ≤ 24
  · have hd : decide ((24 : Int) < (t.length : Int) + 1) = false := by simp; omega
    have hR : Hid (decide (t.length + 1 ≤ 24) = true) := by unfold Hid; simpa using h24
    go_wp2_with fail
    (with_reducible refine (hL.out _).mono ?_); rintro e w1 ⟨rfl, rfl⟩
    go_wp2_with fail
    clear hi0 hL hd hd0
    go_loopw [3] (fun i wx => ∃ k : Nat, k ≤ t.length + 1 ∧ i = .int .i64 k ∧ wx = w1)
      (fun i _ => t.length + 1 - (intOf i).toNat)
    case atStart => exact ⟨0, by omega, rfl, rfl⟩
    case round =>
      obtain ⟨k, hk, rfl, rfl⟩ := hrel
      by_cases hlt : k < t.length + 1
      · have hgk : s[k]? = some (s[k]'(by omega)) := List.getElem?_eq_getElem (by omega)
        obtain ⟨z, hz⟩ : ∃ z, s[k]'(by omega) = z := ⟨_, rfl⟩
        rw [hz] at hgk
        have hi := fun W => HX.out k z hgk W
        have hN := fun W => rinner_any z W
        rw [hin.out k z hgk] at hN
        have HN := Lib.hid hN
        have hki : (k : Int) < (t.length : Int) + 1 := by omega
        clear hgk hz HX hin hN
        go_wp2_with fail
        (with_reducible refine (HN.out _).mono ?_); rintro e w2 ⟨rfl, rfl⟩
        go_wp2_with fail
        go_roundw
        case rel => exact ⟨k + 1, by omega, by go_num, by first | rfl | trivial⟩
        case measure => simp [intOf]; omega
      · obtain rfl : k = t.length + 1 := by omega
        go_wp2_with fail
        go_ret
        exact ⟨by rw [hR.out]; rfl, rfl⟩
  · have hd : decide ((24 : Int) < (t.length : Int) + 1) = true := by simp; omega
    have hR : Hid (decide (t.length + 1 ≤ 24) = false) := by unfold Hid; simpa using h24
    go_wp2_with fail
    go_ret
    exact ⟨by rw [hR.out]; rfl, rfl⟩
end Go.Proofs.Ytbpncbomcdpogaa
