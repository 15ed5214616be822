/- The reference's Translate and Owner; near. -/
import Derived.Test.YtdhofaiogbpjpaaSzv
namespace Go.Proofs.Ytdhofaiogbpjpaa
open Go.RowKit Go.Joins
namespace Me
theorem find_none {L : List Rg} {q : Rg → Bool} {n : Nat} (hL : L.length = n) (h : (L.take n).find? q = none) : L.find? q = none := by
  rwa [List.take_of_length_le (by rw [hL]; exact Nat.le_refl _)] at h
theorem fd_yes {L : List Rg} {q : Rg → Bool} {x : Rg} (h : L.find? q = some x) : fdR q L = x ∧ fdB q L = true := by
  unfold fdR fdB; rw [h]; exact ⟨rfl, rfl⟩
theorem fd_no {L : List Rg} {q : Rg → Bool} (h : L.find? q = none) : fdB q L = false := by
  unfold fdB; rw [h]; rfl
set_option maxRecDepth 100000 in
set_option maxHeartbeats 4000000 in
theorem rtrans_any (A : Option Addr) (c n : Nat) (L : List Rg) (hn : L.length = n) (hn1 : n ≤ 1000000000) (part addr : Int) (w : World) (hA : isG A L w) :
    Calls Try.prog 13 #[.slice A n c, .int .i64 part, .int .i64 addr] w fun e w' => e = .returned (.tuple #[.int .i64 (trR L part addr).1, .int .i64 (trR L part addr).2]) ∧ w' = w := by
  have ht := Lib.hid (trR_eq L part addr)
  have HA := Lib.hid hA
  have HL := Lib.hid hn
  generalize trR L part addr = r at *
  clear hA hn
  go_enter Try.func13, Try.ntmps13
  go_wp2_with fail
  go_loopw [8] (fun i wr => ∃ k : Nat, k ≤ n ∧ i = .int .i64 k ∧ Hid ((L.take k).find? (fun r => r.p == part) = none) ∧ wr = w)
    (fun i _ => n - (intOf i).toNat)
  case atStart => exact ⟨0, Nat.zero_le _, rfl, rfl, rfl⟩
  case round =>
    obtain ⟨k, hk, rfl, hno, rfl⟩ := hrel
    by_cases hlt : k < n
    · have hx : L[k]? = some (L[k]'(by rw [HL.out]; exact hlt)) := List.getElem?_eq_getElem _
      obtain ⟨x, hxe⟩ : ∃ x, L[k]'(by rw [HL.out]; exact hlt) = x := ⟨_, rfl⟩
      rw [hxe] at hx
      obtain ⟨ab, ao, rfl, hal, c0, c1, c2⟩ := isG.at HA.out hx
      have hdl : decide ((k : Int) < n) = true := by simp; omega
      have hstep : Hid ((x.p == part) = false → (L.take (k + 1)).find? (fun r => r.p == part) = none) := fun h => by rw [find_step hx hno.out, h]; rfl
      have hyes : Hid ((x.p == part) = true → r = if addr < 0 ∨ x.s ≤ addr then (0, 110) else (wrap64 (x.b + addr), 0)) := fun h => by
        have := fd_yes (find_yes hx hno.out h)
        rw [ht.out, this.1, this.2, if_pos rfl]
      clear hx hxe hno
      obtain ⟨p, b, s⟩ := x
      simp only at *
      cases hq : (p == part) with
      | false =>
        have hno2 := Lib.hid (hstep.out hq)
        clear hstep hyes
        go_wp2_with fail
        go_roundw
        case rel => exact ⟨k + 1, by omega, by go_num, hno2.out, by first | rfl | trivial⟩
        case measure => simp [intOf]; omega
      | true =>
        have h0 := hyes.out hq
        clear hyes hstep
        by_cases h1 : addr < 0
        · rw [if_pos (.inl h1)] at h0
          subst h0
          go_wp2_with fail
          go_ret2
          exact ⟨rfl, rfl⟩
        · by_cases h2 : s ≤ addr
          · rw [if_pos (.inr h2)] at h0
            subst h0
            go_wp2_with fail
            go_ret2
            exact ⟨rfl, rfl⟩
          · rw [if_neg (by omega)] at h0
            subst h0
            have d1 : decide (addr < 0) = false := decide_eq_false h1
            have d2 : decide (s ≤ addr) = false := decide_eq_false h2
            go_wp2_with fail
            go_ret2
            exact ⟨rfl, rfl⟩
    · obtain rfl : k = n := by omega
      have h0 := ht.out
      rw [fd_no (find_none HL.out hno.out)] at h0
      simp only [Bool.false_eq_true, if_false] at h0
      subst h0
      go_wp2_with fail
      go_ret2
      exact ⟨rfl, rfl⟩
set_option maxRecDepth 100000 in
set_option maxHeartbeats 4000000 in
theorem rowner_any (A : Option Addr) (c n : Nat) (L : List Rg) (hn : L.length = n) (hn1 : n ≤ 1000000000) (at' : Int) (w : World) (hA : isG A L w) :
    Calls Try.prog 15 #[.slice A n c, .int .i64 at'] w fun e w' => e = .returned (.tuple #[.int .i64 (owR L at').1, .int .i64 (owR L at').2.1, .bool (owR L at').2.2]) ∧ Below w.heap.size w w' := by
  have ht := Lib.hid (owR_eq L at')
  have HA := Lib.hid hA
  have HL := Lib.hid hn
  have HC : Hid (∀ (x : Rg) (W : World), _) := fun x W => contains_any x at' W
  generalize owR L at' = r at *
  clear hA hn
  go_enter Try.func15, Try.ntmps15
  go_wp2_with fail
  go_loopw [7] (fun i wr => ∃ k : Nat, k ≤ n ∧ i = .int .i64 k ∧ Hid ((L.take k).find? (inR at') = none) ∧ Below w.heap.size w wr)
    (fun i _ => n - (intOf i).toNat)
  case atStart => exact ⟨0, Nat.zero_le _, rfl, rfl, Below.refl _ _⟩
  case round =>
    obtain ⟨k, hk, rfl, hno, hB⟩ := hrel
    by_cases hlt : k < n
    · have hx : L[k]? = some (L[k]'(by rw [HL.out]; exact hlt)) := List.getElem?_eq_getElem _
      obtain ⟨x, hxe⟩ : ∃ x, L[k]'(by rw [HL.out]; exact hlt) = x := ⟨_, rfl⟩
      rw [hxe] at hx
      have HA1 : Hid (∀ W, Below w.heap.size w W → _) := fun W hW => isG.at (HA.out.keep hW) hx
      obtain ⟨ab, ao, rfl, hal, c0, c1, c2⟩ := HA1.out wr hB
      have hdl : decide ((k : Int) < n) = true := by simp; omega
      have hstep : Hid (inR at' x = false → (L.take (k + 1)).find? (inR at') = none) := fun h => by rw [find_step hx hno.out, h]; rfl
      have hyes : Hid (inR at' x = true → r = (x.p, wrap64 (at' - x.b), true)) := fun h => by
        have := fd_yes (find_yes hx hno.out h)
        rw [ht.out, this.1, this.2, if_pos rfl]
      have HC1 := Lib.hid (HC.out x wr)
      clear hx hxe hno HC
      generalize inR at' x = q at *
      go_wp2_with fail
      (with_reducible refine (HC1.out).mono ?_); rintro _ w1 ⟨rfl, hb1⟩
      have hB1 := hB.trans (hb1.mono hB.size)
      clear hb1 HC1 c0 c1 c2 hal
      cases q with
      | false =>
        have hno2 := Lib.hid (hstep.out rfl)
        clear hstep hyes
        go_wp2_with fail
        go_roundw
        case rel => exact ⟨k + 1, by omega, by go_num, hno2.out, hB1⟩
        case measure => simp [intOf]; omega
      | true =>
        have h0 := hyes.out rfl
        clear hyes hstep
        obtain ⟨ab', ao', e, hal, c0, c1, c2⟩ := HA1.out w1 hB1
        simp only [Option.some.injEq, Addr.mk.injEq, and_true] at e
        obtain ⟨rfl, rfl⟩ := e
        obtain ⟨p, b, s⟩ := x
        simp only at *
        subst h0
        go_wp2_with fail
        go_quiet (fail)
        rename_i nq
        replace hB1 := below_drewN hB1 nq
        go_wp2_with fail
        go_ret3
        exact ⟨rfl, hB1⟩
    · obtain rfl : k = n := by omega
      have h0 := ht.out
      rw [fd_no (find_none HL.out hno.out)] at h0
      simp only [Bool.false_eq_true, if_false] at h0
      subst h0
      go_wp2_with fail
      go_ret3
      exact ⟨rfl, hB⟩
end Me
end Go.Proofs.Ytdhofaiogbpjpaa
