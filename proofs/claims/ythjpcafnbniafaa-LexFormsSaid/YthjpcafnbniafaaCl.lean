/- The contracts of the classes of bytes and of the cursor. -/
import Derived.Test.YthjpcafnbniafaaBase
namespace Go.Proofs.Ythjpcafnbniafaa
open Go.RowKit Go.Joins

/-- One of the bytes of a text. -/
def oneOf (T : List (BitVec 8)) (c : BitVec 8) : Bool := T.any fun x => x == c
theorem oneOf_step {T : List (BitVec 8)} {k : Nat} {z c : BitVec 8} (h : T[k]? = some z) : (T.take (k + 1)).any (fun x => x == c) = ((T.take k).any (fun x => x == c) || (z == c)) := by
  rw [take_snoc' h, List.any_append]; simp
theorem oneOf_yes {T : List (BitVec 8)} {k : Nat} {z c : BitVec 8} (h : T[k]? = some z) (e : z = c) : oneOf T c = true := by
  subst e
  exact List.any_eq_true.2 ⟨z, List.mem_of_getElem? h, by simp⟩

set_option maxRecDepth 100000 in
set_option maxHeartbeats 1000000 in
theorem among1_any (T : List (BitVec 8)) (hT : T.length ≤ 100) (b : Nat) (c : BitVec 8) (w : World) (hb : BoxN w b 9 #[.string (bstr T)]) :
    Calls Try.prog 43 #[U8 c, .pointer (some ⟨b, 0, none⟩)] w fun e w' => e = .returned (.bool (oneOf T c)) ∧ w' = w := by
  have hbs := bstr_size T
  have hix : Hid (∀ (k : Nat) (z : BitVec 8), T[k]? = some z → ∀ w, (Instr.index 9 (.string (bstr T)) (.int .i64 k)).run Try.prog w = .ok (U8 z) w) := fun k z h w => index_bstr T k z h w
  have c0 := hb.cell 0
  simp at c0
  have hbl := hb.lt
  obtain ⟨S, hS⟩ : ∃ S, bstr T = S := ⟨_, rfl⟩
  rw [hS] at hbs hix c0
  clear hb hS
  go_enter Try.func43, Try.ntmps43
  go_wp2_with fail
  go_loopw [7] (fun i wr => ∃ k : Nat, k ≤ T.length ∧ i = .int .i64 k ∧ (T.take k).any (fun x => x == c) = false ∧ wr = w)
    (fun i _ => T.length - (intOf i).toNat)
  case atStart => exact ⟨0, Nat.zero_le _, rfl, rfl, rfl⟩
  case round =>
    obtain ⟨k, hk, rfl, hn, rfl⟩ := hrel
    by_cases hlt : k < T.length
    · have hgk : T[k]? = some T[k] := List.getElem?_eq_getElem hlt
      obtain ⟨z, hz⟩ : ∃ z, T[k] = z := ⟨_, rfl⟩
      rw [hz] at hgk
      have hi := hix.out k z hgk wr
      have hst := oneOf_step (c := c) hgk
      rw [hn, Bool.false_or] at hst
      by_cases hzc : z = c
      · have hq : ((z.toNat : Int) == (c.toNat : Int)) = true := by rw [beq_bv, decide_eq_true hzc]
        have hy := Lib.hid (oneOf_yes hgk hzc)
        clear hn hst hgk hix
        go_wp2_with fail
        go_ret
        exact ⟨by rw [hy.out]; rfl, rfl⟩
      · have hq : ((z.toNat : Int) == (c.toNat : Int)) = false := by rw [beq_bv, decide_eq_false hzc]
        have hst' : Hid ((T.take (k + 1)).any (fun x => x == c) = false) := by unfold Hid; rw [hst]; simpa using hzc
        clear hn hst hgk hix
        go_wp2_with fail
        go_roundw
        case rel => exact ⟨k + 1, by omega, by go_num, hst'.out, by first | rfl | trivial⟩
        case measure => simp [intOf]; omega
    · have hy : Hid (oneOf T c = false) := by
        unfold Hid oneOf; rw [List.take_of_length_le (by omega)] at hn; exact hn
      clear hn hix
      go_wp2_with fail
      go_ret
      exact ⟨by rw [hy.out]; rfl, rfl⟩

theorem dec_le (a : Nat) (c : BitVec 8) : decide ((a : Int) ≤ (c.toNat : Int)) = decide (a ≤ c.toNat) := by rw [decide_eq_decide]; omega
theorem dec_ge (a : Nat) (c : BitVec 8) : decide ((c.toNat : Int) ≤ (a : Int)) = decide (c.toNat ≤ a) := by rw [decide_eq_decide]; omega

set_option maxRecDepth 100000 in
theorem let_any (c : BitVec 8) (w : World) :
    Calls Try.prog 37 #[U8 c] w fun e w' => e = .returned (.bool (isLet c)) ∧ w' = w := by
  have hc := c.isLt
  obtain ⟨r, hr⟩ : ∃ r, isLet c = r := ⟨_, rfl⟩
  have HR := Lib.hid hr
  rw [hr]
  have hr2 : r = ((decide ((97 : Int) ≤ c.toNat) && decide ((c.toNat : Int) ≤ 122)) || (decide ((65 : Int) ≤ c.toNat) && decide ((c.toNat : Int) ≤ 90))) := by
    rw [← hr]; unfold isLet; rw [Bool.decide_and, Bool.decide_and]
    rw [show (97 : Int) = ((97 : Nat) : Int) from rfl, show (122 : Int) = ((122 : Nat) : Int) from rfl, show (65 : Int) = ((65 : Nat) : Int) from rfl, show (90 : Int) = ((90 : Nat) : Int) from rfl, dec_le, dec_ge, dec_le, dec_ge]
  obtain ⟨x1, h1⟩ : ∃ x, decide ((97 : Int) ≤ c.toNat) = x := ⟨_, rfl⟩
  obtain ⟨x2, h2⟩ : ∃ x, decide ((c.toNat : Int) ≤ 122) = x := ⟨_, rfl⟩
  obtain ⟨x3, h3⟩ : ∃ x, decide ((65 : Int) ≤ c.toNat) = x := ⟨_, rfl⟩
  obtain ⟨x4, h4⟩ : ∃ x, decide ((c.toNat : Int) ≤ 90) = x := ⟨_, rfl⟩
  rw [h1, h2, h3, h4] at hr2
  have H3 := Lib.hid hr2
  clear hr hr2 HR
  go_enter Try.func37, Try.ntmps37
  cases x1 <;> cases x2 <;> cases x3 <;> cases x4
  all_goals
    go_wp2_with fail
    go_ret
    exact ⟨by rw [H3.out]; rfl, rfl⟩

set_option maxRecDepth 100000 in
theorem dig_any (c : BitVec 8) (w : World) :
    Calls Try.prog 38 #[U8 c] w fun e w' => e = .returned (.bool (isDig c)) ∧ w' = w := by
  have hr2 : isDig c = (decide ((48 : Int) ≤ c.toNat) && decide ((c.toNat : Int) ≤ 57)) := by
    unfold isDig; rw [Bool.decide_and]
    rw [show (48 : Int) = ((48 : Nat) : Int) from rfl, show (57 : Int) = ((57 : Nat) : Int) from rfl, dec_le, dec_ge]
  obtain ⟨x1, h1⟩ : ∃ x, decide ((48 : Int) ≤ c.toNat) = x := ⟨_, rfl⟩
  obtain ⟨x2, h2⟩ : ∃ x, decide ((c.toNat : Int) ≤ 57) = x := ⟨_, rfl⟩
  rw [h1, h2] at hr2
  have H3 := Lib.hid hr2
  generalize isDig c = r at *
  clear hr2
  go_enter Try.func38, Try.ntmps38
  cases x1 <;> cases x2
  all_goals
    go_wp2_with fail
    go_ret
    exact ⟨by rw [H3.out]; rfl, rfl⟩

set_option maxRecDepth 100000 in
theorem nl_any (c : BitVec 8) (w : World) :
    Calls Try.prog 44 #[U8 c] w fun e w' => e = .returned (.bool (notNl c)) ∧ w' = w := by
  have hr2 : notNl c = ((c.toNat : Int) != 10) := by
    unfold notNl
    have := beq_bv c 10#8
    rw [show (((10#8 : BitVec 8)).toNat : Int) = 10 from rfl] at this
    rw [bne, bne, this]; rfl
  obtain ⟨x1, h1⟩ : ∃ x, ((c.toNat : Int) != 10) = x := ⟨_, rfl⟩
  rw [h1] at hr2
  have H3 := Lib.hid hr2
  generalize notNl c = r at *
  clear hr2
  go_enter Try.func44, Try.ntmps44
  cases x1
  all_goals
    go_wp2_with fail
    go_ret
    exact ⟨by rw [H3.out]; rfl, rfl⟩

/-- The scanner's cells: the source, the offset, the classes. -/
def scC (S : ByteArray) (k f1 f2 : Nat) : Array Value := #[.string S, .int .i64 k, .func (.func 43) #[] #[.pointer (some ⟨f1, 0, none⟩)], .func (.func 37) #[] #[], .func (.func 38) #[] #[], .func (.func 43) #[] #[.pointer (some ⟨f2, 0, none⟩)]]

set_option maxRecDepth 100000 in
theorem more_any (S : ByteArray) (k b : Nat) (w : World) (h0 : w.cell? ⟨b, 0, none⟩ = some (.string S)) (h1 : w.cell? ⟨b, 1, none⟩ = some (.int .i64 k)) :
    Calls Try.prog 40 #[.pointer (some ⟨b, 0, none⟩)] w fun e w' => e = .returned (.bool (decide (k < S.size))) ∧ ∃ m, w' = w.drewN m := by
  go_enter Try.func40, Try.ntmps40
  go_wp2_with fail
  go_quiet (fail)
  go_wp2_with fail
  go_ret
  exact ⟨rfl, _, rfl⟩

set_option maxRecDepth 100000 in
theorem peek_any (l : List (BitVec 8)) (k b : Nat) (z : BitVec 8) (hz : l[k]? = some z) (w : World) (h0 : w.cell? ⟨b, 0, none⟩ = some (.string (bstr l))) (h1 : w.cell? ⟨b, 1, none⟩ = some (.int .i64 k)) :
    Calls Try.prog 46 #[.pointer (some ⟨b, 0, none⟩)] w fun e w' => e = .returned (U8 z) ∧ ∃ m, w' = w.drewN m := by
  have hix : (∀ w, (Instr.index 9 (.string (bstr l)) (.int .i64 k)).run Try.prog w = .ok (U8 z) w) := fun w => index_bstr l k z hz w
  go_enter Try.func46, Try.ntmps46
  go_wp2_with fail
  go_quiet (fail)
  go_wp2_with fail
  go_ret
  exact ⟨rfl, _, rfl⟩
end Go.Proofs.Ythjpcafnbniafaa
