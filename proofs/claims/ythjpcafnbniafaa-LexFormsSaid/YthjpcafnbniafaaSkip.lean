/- The contract of skip. -/
import Derived.Test.YthjpcafnbniafaaPass
import Derived.StillTailTactics
namespace Go.Proofs.Ythjpcafnbniafaa
open Go.RowKit Go.Joins

theorem at_blank (l : List (BitVec 8)) (j : Nat) : (j + cnt isBlank (l.drop j)) + skp false (l.drop (j + cnt isBlank (l.drop j))) = j + skp false (l.drop j) := by
  have := skp_cnt (l.drop j)
  rw [List.drop_drop] at this
  omega
theorem at_hash {l : List (BitVec 8)} {j : Nat} (h : l[j]? = some 35#8) : (j + cnt notNl (l.drop j)) + skp false (l.drop (j + cnt notNl (l.drop j))) = j + skp false (l.drop j) := by
  have := skp_hash (l.drop (j + 1))
  rw [← drop_at h, List.drop_drop] at this
  omega
theorem at_stop (l : List (BitVec 8)) (j : Nat) : ∀ c, l[j + cnt isBlank (l.drop j)]? = some c → isBlank c = false := fun c hc => by
  refine cnt_stop isBlank (l.drop j) c (l.drop (j + cnt isBlank (l.drop j) + 1)) ?_
  rw [List.drop_drop]; exact drop_at hc
theorem hash_ge {l : List (BitVec 8)} {j : Nat} (h : l[j]? = some 35#8) : 1 ≤ cnt notNl (l.drop j) := by
  rw [drop_at h, cnt_yes (by decide)]; omega
theorem cnt_fit (p : BitVec 8 → Bool) {l : List (BitVec 8)} {j : Nat} (h : j ≤ l.length) : j + cnt p (l.drop j) ≤ l.length := by
  have := cnt_le p (l.drop j)
  rw [List.length_drop] at this
  omega

set_option maxRecDepth 100000 in
set_option maxHeartbeats 1000000 in
theorem skip_any (l : List (BitVec 8)) (b f1 f2 k : Nat) (hk : k ≤ l.length) (hl : l.length ≤ 65536) (w : World) (hs : ScB w b f1 f2 l k) :
    Calls Try.prog 39 #[.pointer (some ⟨b, 0, none⟩)] w fun e w' => e = .returned (.tuple #[]) ∧ ScB w' b f1 f2 l (k + skp false (l.drop k)) ∧ Tn b w w' := by
  have hM : Hid (∀ (j : Nat) (W : World), ScB W b f1 f2 l j → Calls Try.prog 40 #[.pointer (some ⟨b, 0, none⟩)] W fun e w' => e = .returned (.bool (decide (j < l.length))) ∧ ∃ m, w' = W.drewN m) := fun j W h => by
    have := more_any (bstr l) j b W h.c0 h.c1
    rwa [bstr_size] at this
  have hP : Hid (∀ (j : Nat) (z : BitVec 8) (W : World), l[j]? = some z → ScB W b f1 f2 l j → Calls Try.prog 46 #[.pointer (some ⟨b, 0, none⟩)] W fun e w' => e = .returned (U8 z) ∧ ∃ m, w' = W.drewN m) := fun j z W hz h => peek_any l j b z hz W h.c0 h.c1
  have hBl : Hid (∀ (j : Nat) (_ : j ≤ l.length) (W : World), ScB W b f1 f2 l j → _) := fun j hj W h => pass_blank l b f1 f2 j hj hl W h
  have hNl : Hid (∀ (j : Nat) (_ : j ≤ l.length) (W : World), ScB W b f1 f2 l j → _) := fun j hj W h => pass_nl l b f1 f2 j hj hl W h
  have c2 := hs.c2
  have hbl := hs.lt
  have hs0 : ScB w.drew b f1 f2 l k := hs.drewN 1
  have ht0 : Tn b w w.drew := (Tn.refl b w).drewN 1
  go_enter Try.func39, Try.ntmps39
  go_wp2_with fail
  go_still_tail 8, (by kernel_rfl)
  change wpList _ _ _ _ _ w.drew
  generalize w.drew = w0 at hs0 ht0 ⊢
  go_wp2_with fail
  (with_reducible refine (hBl.out k hk _ hs0).mono ?_); rintro e w1 ⟨rfl, hs1, ht1⟩
  have ht := ht0.trans ht1
  have hst := at_stop l k
  have hek := at_blank l k
  have hkf := cnt_fit isBlank hk
  generalize k + cnt isBlank (l.drop k) = k1 at hs1 hst hek hkf
  clear hs hs0 ht0 ht1 c2
  go_wp2_with fail
  go_loopw [] (fun wr => ∃ j : Nat, j ≤ l.length ∧ j + skp false (l.drop j) = k + skp false (l.drop k) ∧ (∀ c, l[j]? = some c → isBlank c = false) ∧ ScB wr b f1 f2 l j ∧ Tn b w wr)
    (fun wr => l.length - (intOf ((wr.cell? ⟨b, 1, none⟩).getD undef)).toNat)
  case atStart => exact ⟨k1, hkf, hek, hst, hs1, ht⟩
  case round =>
    clear hs1 hst hek hkf ht
    obtain ⟨j, hj, hje, hst, hs, ht⟩ := hrel
    have hc0 := Lib.hid hs.c1
    by_cases hlt : j < l.length
    · have hgk : l[j]? = some l[j] := List.getElem?_eq_getElem hlt
      obtain ⟨z, hz⟩ : ∃ z, l[j] = z := ⟨_, rfl⟩
      rw [hz] at hgk
      have hm := hM.out j wr hs
      rw [decide_eq_true hlt] at hm
      have hq := beq_bv z 35#8
      rw [show (((35#8 : BitVec 8)).toNat : Int) = 35 from rfl] at hq
      go_wp2_with fail
      (with_reducible refine hm.mono ?_); rintro e w1 ⟨rfl, m1, hw⟩
      replace hs := hs.drewN m1
      replace ht := ht.drewN m1
      rw [← hw] at hs ht
      clear hw
      by_cases h35 : z = 35#8
      · rw [decide_eq_true h35] at hq
        subst h35
        have hHe := at_hash hgk
        have hHg := hash_ge hgk
        go_wp2_with fail
        (with_reducible refine (hP.out j _ _ hgk hs).mono ?_); rintro e w2 ⟨rfl, m2, hw⟩
        replace hs := hs.drewN m2
        replace ht := ht.drewN m2
        rw [← hw] at hs ht
        clear hw
        have hjf := cnt_fit notNl (l := l) (j := j) (by omega)
        go_wp2_with fail
        (with_reducible refine (hNl.out j (by omega) _ hs).mono ?_); rintro e w3 ⟨rfl, hs3, ht3⟩
        replace ht := ht.trans ht3
        clear hs ht3
        have hm1 : j < j + cnt notNl (l.drop j) := by omega
        generalize j + cnt notNl (l.drop j) = j1 at hs3 hHe hjf hm1
        have c2 := hs3.c2
        have hbl3 := hs3.lt
        have hs0 : ScB w3.drew b f1 f2 l j1 := hs3.drewN 1
        have ht0 : Tn b w w3.drew := ht.drewN 1
        go_wp2_with fail
        go_still_tail 8, (by kernel_rfl)
        change wpList _ _ _ _ _ w3.drew
        generalize w3.drew = w4 at hs0 ht0 ⊢
        go_wp2_with fail
        (with_reducible refine (hBl.out j1 hjf _ hs0).mono ?_); rintro e w5 ⟨rfl, hs5, ht5⟩
        replace ht := ht0.trans ht5
        have hst5 := at_stop l j1
        have hek := at_blank l j1
        have hkf := cnt_fit isBlank hjf
        have hge : j1 ≤ j1 + cnt isBlank (l.drop j1) := by omega
        generalize j1 + cnt isBlank (l.drop j1) = j2 at hs5 hst5 hek hkf hge
        have hc5 := Lib.hid hs5.c1
        go_wp2_with fail
        go_roundw
        case rel => exact ⟨j2, hkf, by omega, hst5, hs5, ht⟩
        case measure =>
          rw [hc0.out, hc5.out]
          simp [intOf]
          omega
      · rw [decide_eq_false h35] at hq
        have hzb := hst z hgk
        have h0 : skp false (l.drop j) = 0 := by rw [drop_at hgk, skp_none hzb h35]
        have hn : Hid (j = k + skp false (l.drop k)) := by unfold Hid; omega
        clear hje hst hM hBl hNl h0
        go_wp2_with fail
        (with_reducible refine (hP.out j _ _ hgk hs).mono ?_); rintro e w2 ⟨rfl, m2, hw⟩
        replace hs := hs.drewN m2
        replace ht := ht.drewN m2
        rw [← hw] at hs ht
        clear hw
        go_wp2_with fail
        go_end0
        exact ⟨rfl, by rw [← hn.out]; exact hs, ht⟩
    · have hm := hM.out j wr hs
      rw [decide_eq_false hlt] at hm
      have h0 : skp false (l.drop j) = 0 := by rw [List.drop_eq_nil_of_le (by omega)]; rfl
      have hn : Hid (j = k + skp false (l.drop k)) := by unfold Hid; omega
      clear hje hP h0
      go_wp2_with fail
      (with_reducible refine hm.mono ?_); rintro e w1 ⟨rfl, m1, hw⟩
      replace hs := hs.drewN m1
      replace ht := ht.drewN m1
      rw [← hw] at hs ht
      clear hw
      go_wp2_with fail
      go_end0
      exact ⟨rfl, by rw [← hn.out]; exact hs, ht⟩
end Go.Proofs.Ythjpcafnbniafaa
