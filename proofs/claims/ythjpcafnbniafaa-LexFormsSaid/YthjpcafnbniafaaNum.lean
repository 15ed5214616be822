/- The contract of isNumber. -/
import Derived.Test.YthjpcafnbniafaaSkip
namespace Go.Proofs.Ythjpcafnbniafaa
open Go.RowKit Go.Joins

/-- The value that the loop has after k digits, where all were digits and the value was never too large. -/
def valF : Nat → List (BitVec 8) → Nat
  | v, [] => v
  | v, c :: t => valF (10 * v + (c.toNat - 48)) t
theorem numF_at {s : List (BitVec 8)} {k v : Nat} {c : BitVec 8} (h : s[k]? = some c) : numF v (s.drop k) = (isDig c && (decide (10 * v + (c.toNat - 48) ≤ 1073741824) && numF (10 * v + (c.toNat - 48)) (s.drop (k + 1)))) := by
  rw [drop_at h]; rfl
theorem isDig_ge {c : BitVec 8} (h : isDig c = true) : 48 ≤ c.toNat ∧ c.toNat ≤ 57 := by unfold isDig at h; simpa using h

set_option maxRecDepth 100000 in
set_option maxHeartbeats 1000000 in
theorem number_any (l : List (BitVec 8)) (b f1 f2 k : Nat) (c : BitVec 8) (t : List (BitVec 8)) (ht : t.length ≤ 65536) (w : World) (hs : ScB w b f1 f2 l k) :
    Calls Try.prog 42 #[.pointer (some ⟨b, 0, none⟩), .string (bstr (c :: t))] w fun e w' => e = .returned (.bool (numOk (c :: t))) ∧ ∃ m, w' = w.drewN m := by
  have hD : Hid (∀ (z : BitVec 8) (W : World), _) := fun z W => dig_any z W
  obtain ⟨s, hse⟩ : ∃ s, c :: t = s := ⟨_, rfl⟩
  have hln : s.length = t.length + 1 := by rw [← hse]; rfl
  have hbs := bstr_size s
  have hc0 : s[0]? = some c := by rw [← hse]; rfl
  have hix : Hid (∀ (k : Nat) (z : BitVec 8), s[k]? = some z → ∀ w, (Instr.index 9 (.string (bstr s)) (.int .i64 k)).run Try.prog w = .ok (U8 z) w) := fun k z h w => index_bstr s k z h w
  have hi0 := hix.out 0 c hc0 w
  rw [show ((0 : Nat) : Int) = 0 from rfl] at hi0
  obtain ⟨y0, h0⟩ : ∃ x, ((c.toNat : Int) == 48) = x := ⟨_, rfl⟩
  have hN : Hid (numOk s = (!(y0 && decide (1 < s.length)) && numF 0 s)) := by
    unfold Hid numOk
    have := beq_bv c 48#8
    rw [show (((48#8 : BitVec 8)).toNat : Int) = 48 from rfl, h0] at this
    rw [show s.head? = some c by rw [← hse]; rfl, this]
    first | rfl | (congr 3; done) | (congr 3; rw [Bool.eq_iff_iff]; simp)
  rw [hse]
  obtain ⟨S, hS⟩ : ∃ S, bstr s = S := ⟨_, rfl⟩
  rw [hS] at hbs hix hi0 ⊢
  have hbl := hs.lt
  have c4 := hs.c4
  clear hse hS
  go_enter Try.func42, Try.ntmps42
  rcases (by by_cases h1 : 1 < s.length <;> cases y0 <;> simp [h1] : (y0 = true ∧ 1 < s.length) ∨ (y0 = true ∧ ¬ 1 < s.length) ∨ y0 = false) with ⟨rfl, h1⟩ | ⟨rfl, h1⟩ | rfl
  · go_wp2_with fail
    go_ret
    exact ⟨by rw [hN.out]; simp [h1], 0, rfl⟩
  all_goals
    have hN' : Hid (numOk s = numF 0 s) := by unfold Hid; rw [hN.out]; simp_all
    clear hN hc0
    go_wp2_with fail
    clear hi0
    go_loopw [5, 17] (fun v i wr => ∃ j n : Nat, j ≤ s.length ∧ i = .int .i64 j ∧ v = .int .i64 n ∧ n ≤ 1073741824 ∧ numF n (s.drop j) = numF 0 s ∧ ScB wr b f1 f2 l k ∧ ∃ m, wr = w.drewN m)
      (fun _ i _ => s.length - (intOf i).toNat)
    case atStart => exact ⟨0, 0, by omega, rfl, rfl, by omega, rfl, hs, 0, rfl⟩
    case round =>
      clear hs c4 hbl
      obtain ⟨j, n, hj, rfl, rfl, hn, hf, hs, m0, hm0⟩ := hrel
      have c4 := hs.c4
      have hbl := hs.lt
      have HDr : Hid (∀ n, ScB (wr.drewN n) b f1 f2 l k ∧ ∃ m, wr.drewN n = w.drewN m) := fun n => ⟨hs.drewN n, m0 + n, by rw [hm0]; simp⟩
      by_cases hlt : j < s.length
      · have hgk : s[j]? = some s[j] := List.getElem?_eq_getElem hlt
        obtain ⟨z, hz⟩ : ∃ z, s[j] = z := ⟨_, rfl⟩
        rw [hz] at hgk
        have hi := fun W => hix.out j z hgk W
        have hnf := numF_at (v := n) hgk
        have hD' : Hid (∀ W : World, _) := fun W => hD.out z W
        cases hd : isDig z with
        | false =>
          rw [hd] at hD' hnf
          rw [hnf, Bool.false_and] at hf
          have HF := Lib.hid hf
          clear hf hnf hgk hd hs hm0 hz hD hix
          go_wp2_with fail
          go_quiet (first | (go_at_call 38; exact Calls.quiet_of_same (hD'.out _)))
          go_wp2_with fail
          go_ret
          exact ⟨by rw [hN'.out, ← HF.out]; rfl, (HDr.out _).2⟩
        | true =>
          rw [hd] at hD' hnf
          obtain ⟨g1, g2⟩ := isDig_ge hd
          have e1 : (z.toNat : Int) - 48 = ((z.toNat - 48 : Nat) : Int) := by omega
          have e2 : z.toNat - 48 ≤ 9 := by omega
          rw [hnf, Bool.true_and] at hf
          generalize z.toNat - 48 = d at e1 e2 hf
          clear hnf hd hs hm0 hD hix
          by_cases hbig : 10 * n + d ≤ 1073741824
          · rw [decide_eq_true hbig, Bool.true_and] at hf
            have HF := Lib.hid hf
            clear hf hgk hz
            go_wp2_with fail
            go_quiet (first | (go_at_call 38; exact Calls.quiet_of_same (hD'.out _)))
            go_wp2_with fail
            go_roundw
            case rel => exact ⟨j + 1, 10 * n + d, by omega, by go_num, by go_num, hbig, HF.out, (HDr.out _).1, (HDr.out _).2⟩
            case measure => simp [intOf]; omega
          · rw [decide_eq_false hbig, Bool.false_and] at hf
            have HF := Lib.hid hf
            clear hf hgk hz
            go_wp2_with fail
            go_quiet (first | (go_at_call 38; exact Calls.quiet_of_same (hD'.out _)))
            go_wp2_with fail
            go_ret
            exact ⟨by rw [hN'.out, ← HF.out]; rfl, (HDr.out _).2⟩
      · obtain rfl : j = s.length := by omega
        rw [List.drop_length] at hf
        have HF := Lib.hid hf
        clear hf hD hix
        go_wp2_with fail
        go_ret
        exact ⟨by rw [hN'.out, ← HF.out]; rfl, _, rfl⟩
end Go.Proofs.Ythjpcafnbniafaa
