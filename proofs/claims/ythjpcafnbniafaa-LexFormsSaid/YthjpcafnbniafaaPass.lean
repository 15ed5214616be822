/- The contract of pass, for each of its classes. (Written by genpass.py.) -/
import Derived.Test.YthjpcafnbniafaaCont
namespace Go.Proofs.Ythjpcafnbniafaa
open Go.RowKit Go.Joins

set_option maxRecDepth 100000 in
set_option maxHeartbeats 1000000 in
theorem pass_blank (l : List (BitVec 8)) (b f1 f2 k : Nat) (hk : k ≤ l.length) (hl : l.length ≤ 65536) (w : World) (hs : ScB w b f1 f2 l k) :
    Calls Try.prog 45 #[.pointer (some ⟨b, 0, none⟩), .func (.func 43) #[] #[.pointer (some ⟨f1, 0, none⟩)]] w fun e w' => e = .returned (.tuple #[]) ∧ ScB w' b f1 f2 l (k + cnt isBlank (l.drop k)) ∧ Tn b w w' := by
  have hM : Hid (∀ (j : Nat) (W : World), ScB W b f1 f2 l j → Calls Try.prog 40 #[.pointer (some ⟨b, 0, none⟩)] W fun e w' => e = .returned (.bool (decide (j < l.length))) ∧ ∃ m, w' = W.drewN m) := fun j W h => by
    have := more_any (bstr l) j b W h.c0 h.c1
    rwa [bstr_size] at this
  have hP : Hid (∀ (j : Nat) (z : BitVec 8) (W : World), l[j]? = some z → ScB W b f1 f2 l j → Calls Try.prog 46 #[.pointer (some ⟨b, 0, none⟩)] W fun e w' => e = .returned (U8 z) ∧ ∃ m, w' = W.drewN m) := fun j z W hz h => peek_any l j b z hz W h.c0 h.c1
  have hC : Hid (∀ (j : Nat) (z : BitVec 8) (W : World), ScB W b f1 f2 l j → Calls Try.prog 43 #[U8 z, .pointer (some ⟨f1, 0, none⟩)] W fun e w' => e = .returned (.bool (isBlank z)) ∧ ∃ m, w' = W.drewN m) := fun j z W h => by
    have := among1_any blanksL (by decide) f1 z W h.x1
    rw [blanks_eq] at this
    exact this.mono fun _ _ ⟨h1, h2⟩ => ⟨h1, 0, h2⟩
  go_enter Try.func45, Try.ntmps45
  go_wp2_with fail
  go_loopw [] (fun wr => ∃ j : Nat, j ≤ l.length ∧ j + cnt isBlank (l.drop j) = k + cnt isBlank (l.drop k) ∧ ScB wr b f1 f2 l j ∧ Tn b w wr)
    (fun wr => l.length - (intOf ((wr.cell? ⟨b, 1, none⟩).getD undef)).toNat)
  case atStart => exact ⟨k, hk, rfl, hs, Tn.refl _ _⟩
  case round =>
    clear hs hk
    obtain ⟨j, hj, hje, hs, ht⟩ := hrel
    have hc0 := Lib.hid hs.c1
    by_cases hlt : j < l.length
    · have hgk : l[j]? = some l[j] := List.getElem?_eq_getElem hlt
      obtain ⟨z, hz⟩ : ∃ z, l[j] = z := ⟨_, rfl⟩
      rw [hz] at hgk
      have hm := hM.out j wr hs
      rw [decide_eq_true hlt] at hm
      go_wp2_with fail
      (with_reducible refine hm.mono ?_); rintro e w1 ⟨rfl, m1, hw⟩
      replace hs := hs.drewN m1
      replace ht := ht.drewN m1
      rw [← hw] at hs ht
      clear hw
      go_wp2_with fail
      (with_reducible refine (hP.out j z _ hgk hs).mono ?_); rintro e w2 ⟨rfl, m2, hw⟩
      replace hs := hs.drewN m2
      replace ht := ht.drewN m2
      rw [← hw] at hs ht
      clear hw
      have hc := hC.out j z _ hs
      cases hp : isBlank z with
      | true =>
        rw [hp] at hc
        have hn := Lib.hid ((cnt_at_yes hgk hp).symm.trans hje)
        clear hje hm hM hP hC
        go_wp2_with fail
        (with_reducible refine hc.mono ?_); rintro e w3 ⟨rfl, m3, hw⟩
        replace hs := hs.drewN m3
        replace ht := ht.drewN m3
        rw [← hw] at hs ht
        clear hw
        clear hc
        have c1 := hs.c1
        have fz := hs.fz
        have hbl := hs.lt
        have hme : (intOf ((wr.cell? ⟨b, 1, none⟩).getD undef)).toNat = j := by
          rw [hc0.out]; simp [intOf]
        have hs2 := Lib.hid (hs.move (j + 1))
        have ht2 := Lib.hid (ht.set 1 (.int .i64 ((j + 1 : Nat) : Int)))
        have hc2 : Hid _ := Lib.hid (hs.move (j + 1)).c1
        go_wp2_with fail
        go_roundw
        case rel => exact ⟨j + 1, by omega, hn.out, by simpa using hs2.out, by simpa using ht2.out⟩
        case measure =>
          rw [hme]
          have := hc2.out
          simp at this ⊢
          rw [this]
          simp [intOf]
          omega
      | false =>
        rw [hp] at hc
        have hn : Hid (j = k + cnt isBlank (l.drop k)) := by unfold Hid; rw [← hje, cnt_at_no hgk hp]; rfl
        clear hje hm hM hP hC
        go_wp2_with fail
        (with_reducible refine hc.mono ?_); rintro e w3 ⟨rfl, m3, hw⟩
        replace hs := hs.drewN m3
        replace ht := ht.drewN m3
        rw [← hw] at hs ht
        clear hw
        clear hc
        go_wp2_with fail
        go_end0
        exact ⟨rfl, by rw [← hn.out]; exact hs, ht⟩
    · have hm := hM.out j wr hs
      rw [decide_eq_false hlt] at hm
      have hn : Hid (j = k + cnt isBlank (l.drop k)) := by unfold Hid; rw [← hje, cnt_end (by omega)]; rfl
      clear hje hM hP hC
      go_wp2_with fail
      (with_reducible refine hm.mono ?_); rintro e w1 ⟨rfl, m1, hw⟩
      replace hs := hs.drewN m1
      replace ht := ht.drewN m1
      rw [← hw] at hs ht
      clear hw
      go_wp2_with fail
      go_end0
      exact ⟨rfl, by rw [← hn.out]; exact hs, ht⟩

set_option maxRecDepth 100000 in
set_option maxHeartbeats 1000000 in
theorem pass_nl (l : List (BitVec 8)) (b f1 f2 k : Nat) (hk : k ≤ l.length) (hl : l.length ≤ 65536) (w : World) (hs : ScB w b f1 f2 l k) :
    Calls Try.prog 45 #[.pointer (some ⟨b, 0, none⟩), .func (.func 44) #[] #[]] w fun e w' => e = .returned (.tuple #[]) ∧ ScB w' b f1 f2 l (k + cnt notNl (l.drop k)) ∧ Tn b w w' := by
  have hM : Hid (∀ (j : Nat) (W : World), ScB W b f1 f2 l j → Calls Try.prog 40 #[.pointer (some ⟨b, 0, none⟩)] W fun e w' => e = .returned (.bool (decide (j < l.length))) ∧ ∃ m, w' = W.drewN m) := fun j W h => by
    have := more_any (bstr l) j b W h.c0 h.c1
    rwa [bstr_size] at this
  have hP : Hid (∀ (j : Nat) (z : BitVec 8) (W : World), l[j]? = some z → ScB W b f1 f2 l j → Calls Try.prog 46 #[.pointer (some ⟨b, 0, none⟩)] W fun e w' => e = .returned (U8 z) ∧ ∃ m, w' = W.drewN m) := fun j z W hz h => peek_any l j b z hz W h.c0 h.c1
  have hC : Hid (∀ (j : Nat) (z : BitVec 8) (W : World), ScB W b f1 f2 l j → Calls Try.prog 44 #[U8 z] W fun e w' => e = .returned (.bool (notNl z)) ∧ ∃ m, w' = W.drewN m) := fun j z W h => (nl_any z W).mono fun _ _ ⟨h1, h2⟩ => ⟨h1, 0, h2⟩
  go_enter Try.func45, Try.ntmps45
  go_wp2_with fail
  go_loopw [] (fun wr => ∃ j : Nat, j ≤ l.length ∧ j + cnt notNl (l.drop j) = k + cnt notNl (l.drop k) ∧ ScB wr b f1 f2 l j ∧ Tn b w wr)
    (fun wr => l.length - (intOf ((wr.cell? ⟨b, 1, none⟩).getD undef)).toNat)
  case atStart => exact ⟨k, hk, rfl, hs, Tn.refl _ _⟩
  case round =>
    clear hs hk
    obtain ⟨j, hj, hje, hs, ht⟩ := hrel
    have hc0 := Lib.hid hs.c1
    by_cases hlt : j < l.length
    · have hgk : l[j]? = some l[j] := List.getElem?_eq_getElem hlt
      obtain ⟨z, hz⟩ : ∃ z, l[j] = z := ⟨_, rfl⟩
      rw [hz] at hgk
      have hm := hM.out j wr hs
      rw [decide_eq_true hlt] at hm
      go_wp2_with fail
      (with_reducible refine hm.mono ?_); rintro e w1 ⟨rfl, m1, hw⟩
      replace hs := hs.drewN m1
      replace ht := ht.drewN m1
      rw [← hw] at hs ht
      clear hw
      go_wp2_with fail
      (with_reducible refine (hP.out j z _ hgk hs).mono ?_); rintro e w2 ⟨rfl, m2, hw⟩
      replace hs := hs.drewN m2
      replace ht := ht.drewN m2
      rw [← hw] at hs ht
      clear hw
      have hc := hC.out j z _ hs
      cases hp : notNl z with
      | true =>
        rw [hp] at hc
        have hn := Lib.hid ((cnt_at_yes hgk hp).symm.trans hje)
        clear hje hm hM hP hC
        go_wp2_with fail
        (with_reducible refine hc.mono ?_); rintro e w3 ⟨rfl, m3, hw⟩
        replace hs := hs.drewN m3
        replace ht := ht.drewN m3
        rw [← hw] at hs ht
        clear hw
        clear hc
        have c1 := hs.c1
        have fz := hs.fz
        have hbl := hs.lt
        have hme : (intOf ((wr.cell? ⟨b, 1, none⟩).getD undef)).toNat = j := by
          rw [hc0.out]; simp [intOf]
        have hs2 := Lib.hid (hs.move (j + 1))
        have ht2 := Lib.hid (ht.set 1 (.int .i64 ((j + 1 : Nat) : Int)))
        have hc2 : Hid _ := Lib.hid (hs.move (j + 1)).c1
        go_wp2_with fail
        go_roundw
        case rel => exact ⟨j + 1, by omega, hn.out, by simpa using hs2.out, by simpa using ht2.out⟩
        case measure =>
          rw [hme]
          have := hc2.out
          simp at this ⊢
          rw [this]
          simp [intOf]
          omega
      | false =>
        rw [hp] at hc
        have hn : Hid (j = k + cnt notNl (l.drop k)) := by unfold Hid; rw [← hje, cnt_at_no hgk hp]; rfl
        clear hje hm hM hP hC
        go_wp2_with fail
        (with_reducible refine hc.mono ?_); rintro e w3 ⟨rfl, m3, hw⟩
        replace hs := hs.drewN m3
        replace ht := ht.drewN m3
        rw [← hw] at hs ht
        clear hw
        clear hc
        go_wp2_with fail
        go_end0
        exact ⟨rfl, by rw [← hn.out]; exact hs, ht⟩
    · have hm := hM.out j wr hs
      rw [decide_eq_false hlt] at hm
      have hn : Hid (j = k + cnt notNl (l.drop k)) := by unfold Hid; rw [← hje, cnt_end (by omega)]; rfl
      clear hje hM hP hC
      go_wp2_with fail
      (with_reducible refine hm.mono ?_); rintro e w1 ⟨rfl, m1, hw⟩
      replace hs := hs.drewN m1
      replace ht := ht.drewN m1
      rw [← hw] at hs ht
      clear hw
      go_wp2_with fail
      go_end0
      exact ⟨rfl, by rw [← hn.out]; exact hs, ht⟩

set_option maxRecDepth 100000 in
set_option maxHeartbeats 1000000 in
theorem pass_in (l : List (BitVec 8)) (b f1 f2 k : Nat) (hk : k ≤ l.length) (hl : l.length ≤ 65536) (w : World) (hs : ScB w b f1 f2 l k) :
    Calls Try.prog 45 #[.pointer (some ⟨b, 0, none⟩), .func (.func 48) #[.pointer (some ⟨b, 0, none⟩)] #[]] w fun e w' => e = .returned (.tuple #[]) ∧ ScB w' b f1 f2 l (k + cnt isIn (l.drop k)) ∧ Tn b w w' := by
  have hM : Hid (∀ (j : Nat) (W : World), ScB W b f1 f2 l j → Calls Try.prog 40 #[.pointer (some ⟨b, 0, none⟩)] W fun e w' => e = .returned (.bool (decide (j < l.length))) ∧ ∃ m, w' = W.drewN m) := fun j W h => by
    have := more_any (bstr l) j b W h.c0 h.c1
    rwa [bstr_size] at this
  have hP : Hid (∀ (j : Nat) (z : BitVec 8) (W : World), l[j]? = some z → ScB W b f1 f2 l j → Calls Try.prog 46 #[.pointer (some ⟨b, 0, none⟩)] W fun e w' => e = .returned (U8 z) ∧ ∃ m, w' = W.drewN m) := fun j z W hz h => peek_any l j b z hz W h.c0 h.c1
  have hC : Hid (∀ (j : Nat) (z : BitVec 8) (W : World), ScB W b f1 f2 l j → Calls Try.prog 48 #[.pointer (some ⟨b, 0, none⟩), U8 z] W fun e w' => e = .returned (.bool (isIn z)) ∧ ∃ m, w' = W.drewN m) := fun j z W h => continues_any l b f1 f2 j z W h
  go_enter Try.func45, Try.ntmps45
  go_wp2_with fail
  go_loopw [] (fun wr => ∃ j : Nat, j ≤ l.length ∧ j + cnt isIn (l.drop j) = k + cnt isIn (l.drop k) ∧ ScB wr b f1 f2 l j ∧ Tn b w wr)
    (fun wr => l.length - (intOf ((wr.cell? ⟨b, 1, none⟩).getD undef)).toNat)
  case atStart => exact ⟨k, hk, rfl, hs, Tn.refl _ _⟩
  case round =>
    clear hs hk
    obtain ⟨j, hj, hje, hs, ht⟩ := hrel
    have hc0 := Lib.hid hs.c1
    by_cases hlt : j < l.length
    · have hgk : l[j]? = some l[j] := List.getElem?_eq_getElem hlt
      obtain ⟨z, hz⟩ : ∃ z, l[j] = z := ⟨_, rfl⟩
      rw [hz] at hgk
      have hm := hM.out j wr hs
      rw [decide_eq_true hlt] at hm
      go_wp2_with fail
      (with_reducible refine hm.mono ?_); rintro e w1 ⟨rfl, m1, hw⟩
      replace hs := hs.drewN m1
      replace ht := ht.drewN m1
      rw [← hw] at hs ht
      clear hw
      go_wp2_with fail
      (with_reducible refine (hP.out j z _ hgk hs).mono ?_); rintro e w2 ⟨rfl, m2, hw⟩
      replace hs := hs.drewN m2
      replace ht := ht.drewN m2
      rw [← hw] at hs ht
      clear hw
      have hc := hC.out j z _ hs
      cases hp : isIn z with
      | true =>
        rw [hp] at hc
        have hn := Lib.hid ((cnt_at_yes hgk hp).symm.trans hje)
        clear hje hm hM hP hC
        go_wp2_with fail
        (with_reducible refine hc.mono ?_); rintro e w3 ⟨rfl, m3, hw⟩
        replace hs := hs.drewN m3
        replace ht := ht.drewN m3
        rw [← hw] at hs ht
        clear hw
        clear hc
        have c1 := hs.c1
        have fz := hs.fz
        have hbl := hs.lt
        have hme : (intOf ((wr.cell? ⟨b, 1, none⟩).getD undef)).toNat = j := by
          rw [hc0.out]; simp [intOf]
        have hs2 := Lib.hid (hs.move (j + 1))
        have ht2 := Lib.hid (ht.set 1 (.int .i64 ((j + 1 : Nat) : Int)))
        have hc2 : Hid _ := Lib.hid (hs.move (j + 1)).c1
        go_wp2_with fail
        go_roundw
        case rel => exact ⟨j + 1, by omega, hn.out, by simpa using hs2.out, by simpa using ht2.out⟩
        case measure =>
          rw [hme]
          have := hc2.out
          simp at this ⊢
          rw [this]
          simp [intOf]
          omega
      | false =>
        rw [hp] at hc
        have hn : Hid (j = k + cnt isIn (l.drop k)) := by unfold Hid; rw [← hje, cnt_at_no hgk hp]; rfl
        clear hje hm hM hP hC
        go_wp2_with fail
        (with_reducible refine hc.mono ?_); rintro e w3 ⟨rfl, m3, hw⟩
        replace hs := hs.drewN m3
        replace ht := ht.drewN m3
        rw [← hw] at hs ht
        clear hw
        clear hc
        go_wp2_with fail
        go_end0
        exact ⟨rfl, by rw [← hn.out]; exact hs, ht⟩
    · have hm := hM.out j wr hs
      rw [decide_eq_false hlt] at hm
      have hn : Hid (j = k + cnt isIn (l.drop k)) := by unfold Hid; rw [← hje, cnt_end (by omega)]; rfl
      clear hje hM hP hC
      go_wp2_with fail
      (with_reducible refine hm.mono ?_); rintro e w1 ⟨rfl, m1, hw⟩
      replace hs := hs.drewN m1
      replace ht := ht.drewN m1
      rw [← hw] at hs ht
      clear hw
      go_wp2_with fail
      go_end0
      exact ⟨rfl, by rw [← hn.out]; exact hs, ht⟩
end Go.Proofs.Ythjpcafnbniafaa
