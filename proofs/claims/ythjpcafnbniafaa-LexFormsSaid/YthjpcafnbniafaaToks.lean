/- The contract of tokens. -/
import Derived.Test.YthjpcafnbniafaaHandC
namespace Go.Proofs.Ythjpcafnbniafaa
open Go.RowKit Go.Joins
attribute [local go_sem] Oper.semAt_some

def encT (x : Tk) : Array Value := #[.agg #[.int .u8 x.k, .string (bstr x.s), .int .i64 x.o]]
theorem skp_zero (l : List (BitVec 8)) : skp false (l.drop (skp false l)) = 0 := by
  cases h : l.drop (skp false l) with
  | nil => rfl
  | cons c t =>
    obtain ⟨h1, h2⟩ := skp_stop false l c t h
    exact skp_none h1 h2
theorem scan_skip (p : Nat) (l : List (BitVec 8)) : scan p l = scan (p + skp false l) (l.drop (skp false l)) := by
  have h0 := skp_zero l
  cases h : l.drop (skp false l) with
  | nil => rw [scan_end h, scan_end (by rfl)]
  | cons c t =>
    rw [h] at h0
    rw [scan_cons h, scan_cons (l := c :: t) (c := c) (t := t) (by rw [h0]; rfl), h0]
    rfl
theorem scan_at {l : List (BitVec 8)} {j : Nat} {z : BitVec 8} (hz : l[j]? = some z) (h0 : skp false (l.drop j) = 0) :
    scan j (l.drop j) = ⟨kd z, z :: (l.drop (j + 1)).take (more z (l.drop (j + 1))), j⟩ :: scan (j + 1 + more z (l.drop (j + 1))) (l.drop (j + 1 + more z (l.drop (j + 1)))) := by
  rw [scan_cons (c := z) (t := l.drop (j + 1)) (by rw [h0, List.drop_zero, drop_at hz]), h0, List.drop_drop]
  rfl
theorem scan_over {l : List (BitVec 8)} {j : Nat} (h : l.length ≤ j) : scan j (l.drop j) = [] := by
  rw [List.drop_eq_nil_of_le h]; rfl
theorem skp_at0 (l : List (BitVec 8)) (j : Nat) : skp false (l.drop (j + skp false (l.drop j))) = 0 := by
  have := skp_zero (l.drop j)
  rwa [List.drop_drop] at this
theorem scan_at_skip (l : List (BitVec 8)) (j : Nat) : scan j (l.drop j) = scan (j + skp false (l.drop j)) (l.drop (j + skp false (l.drop j))) := by
  rw [scan_skip j (l.drop j), List.drop_drop]
theorem skp_fit {l : List (BitVec 8)} {j : Nat} (h : j ≤ l.length) : j + skp false (l.drop j) ≤ l.length := by
  have := skp_le false (l.drop j)
  rw [List.length_drop] at this
  omega

def ownS (b f1 f2 k : Nat) : Prop := k = b ∨ k = f1 ∨ k = f2
theorem ScB.kc {W W' : World} {b f1 f2 k : Nat} {l : List (BitVec 8)} (h : ScB W b f1 f2 l k) (hk : Kc (ownS b f1 f2) W W') : ScB W' b f1 f2 l k :=
  ⟨(hk.own _ (.inl rfl)).trans h.s, (hk.own _ (.inr (.inl rfl))).trans h.x1, (hk.own _ (.inr (.inr rfl))).trans h.x2, h.n1, h.n2⟩

set_option maxRecDepth 100000 in
set_option maxHeartbeats 2000000 in
theorem tokens_in (n : Nat) (hn : 1 ≤ n) (lp : Nat) (l : List (BitVec 8)) (hl : l.length ≤ 65536) (b f1 f2 : Nat) (J : List Tk → World → Prop) (D : World → Prop) (W : World)
    (hJ : ∀ s A C, J s A → It b A C → (∃ j, j ≤ l.length ∧ ScB C b f1 f2 l j) → J s C) (hD : ∀ A C, D A → It b A C → D C)
    (hY : ∀ pre x W1, J pre W1 → pre ++ [x] <+: scan 0 l → YieldAt Fence.wide (n - 1) Try.prog lp (encT x) W1 fun e W' => Kc (ownS b f1 f2) W1 W' ∧ ((e = .returned (.bool true) ∧ J (pre ++ [x]) W') ∨ (e = .returned (.bool false) ∧ D W')))
    (hs : ScB W b f1 f2 l 0) (h0 : J [] W) :
    CallsIn Fence.wide n Try.prog 27 #[.pointer (some ⟨b, 0, none⟩), .func (.yield lp) #[] #[]] W fun e W' => (∃ v, e = .returned v) ∧ (J (scan 0 l) W' ∨ D W') := by
  have hro : Fence.wide.round = none := rfl
  have hM : Hid (∀ (j : Nat) (W : World), ScB W b f1 f2 l j → Calls Try.prog 40 #[.pointer (some ⟨b, 0, none⟩)] W fun e w' => e = .returned (.bool (decide (j < l.length))) ∧ ∃ m, w' = W.drewN m) := fun j W h => by
    have := more_any (bstr l) j b W h.c0 h.c1
    rwa [bstr_size] at this
  have hSk : Hid (∀ (j : Nat) (_ : j ≤ l.length) (W : World), ScB W b f1 f2 l j → _) := fun j hj W h => skip_any l b f1 f2 j hj hl W h
  have hTo : Hid (∀ (j : Nat) (z : BitVec 8) (_ : l[j]? = some z) (W : World), ScB W b f1 f2 l j → _) := fun j z hz W h => token_any l b f1 f2 j z hz hl W h
  have HY := Lib.hid hY
  have HJ := Lib.hid hJ
  have HDd := Lib.hid hD
  clear hY hJ hD
  have hsk0 := skp_at0 l 0
  have hsc0 := scan_at_skip l 0
  have hfit0 := skp_fit (l := l) (j := 0) (by omega)
  refine callsIn_of_wp Try.func27 rfl trivial ?_ hro
  simp only [Try.ntmps27, List.size_toArray, List.length_cons, List.length_nil, Nat.reduceAdd, Nat.reduceSub, Array.replicate_succ, Array.replicate_zero, List.push_toArray, List.append_toArray, List.nil_append, List.cons_append]
  gi_wp2_with fail
  refine ⟨trivial, ?_⟩
  (with_reducible refine (callsIn_wide.2 (hSk.out 0 (by omega) _ hs)).mono ?_); rintro e w1 ⟨rfl, hs1, ht1⟩
  have hj1 := HJ.out _ _ _ h0 (It.tn ht1) ⟨_, skp_fit (l := l) (j := 0) (by omega), hs1⟩
  clear hs h0 ht1
  try simp only [List.drop_zero] at hs1
  try simp only [List.drop_zero] at hsk0
  try simp only [List.drop_zero] at hsc0
  try simp only [List.drop_zero] at hfit0
  generalize 0 + skp false l = j0 at hs1 hsk0 hsc0 hfit0
  gi_wp2_with fail
  gi_loopw [] (fun wr => ∃ (j : Nat) (pre : List Tk), j ≤ l.length ∧ skp false (l.drop j) = 0 ∧ pre ++ scan j (l.drop j) = scan 0 l ∧ ScB wr b f1 f2 l j ∧ J pre wr)
    (fun wr => l.length - (intOf ((wr.cell? ⟨b, 1, none⟩).getD undef)).toNat)
  case atStart => exact ⟨j0, [], hfit0, hsk0, hsc0.symm, hs1, hj1⟩
  case round =>
    clear hs1 hsk0 hsc0 hfit0 hj1
    obtain ⟨j, pre, hj, hsk, hsc, hs, hJ⟩ := hrel
    have hc0 := Lib.hid hs.c1
    by_cases hlt : j < l.length
    · have hgk : l[j]? = some l[j] := List.getElem?_eq_getElem hlt
      obtain ⟨z, hz⟩ : ∃ z, l[j] = z := ⟨_, rfl⟩
      rw [hz] at hgk
      have hm := hM.out j wr hs
      rw [decide_eq_true hlt] at hm
      rw [scan_at hgk hsk] at hsc
      have hml := more_le z (l.drop (j + 1))
      rw [List.length_drop] at hml
      have hTk := hTo.out j z hgk
      generalize more z (l.drop (j + 1)) = mo at hsc hml hTk
      obtain ⟨x, hx⟩ : ∃ x : Tk, x = ⟨kd z, z :: (l.drop (j + 1)).take mo, j⟩ := ⟨_, rfl⟩
      have hTk2 : Hid (∀ W : World, ScB W b f1 f2 l j → Calls Try.prog 41 #[.pointer (some ⟨b, 0, none⟩)] W fun e w' => e = .returned (.agg #[.int .u8 x.k, .string (bstr x.s), .int .i64 x.o]) ∧ ScB w' b f1 f2 l (j + 1 + mo) ∧ It b W w') := fun W h => by
        rw [hx]; exact hTk W h
      rw [← hx] at hsc
      clear hTk hx hM
      gi_wp2_with fail
      refine ⟨trivial, ?_⟩
      (with_reducible refine (callsIn_wide.2 hm).mono ?_); rintro e w1 ⟨rfl, m1, hw⟩
      replace hs := hs.drewN m1
      replace hJ := HJ.out _ _ _ hJ ((It.refl b wr).drewN m1) ⟨j, hj, hs⟩
      rw [← hw] at hs hJ
      clear hw hm
      gi_wp2_with fail
      refine ⟨trivial, ?_⟩
      (with_reducible refine (callsIn_wide.2 (hTk2.out _ hs)).mono ?_); rintro e w2 ⟨rfl, hs2, ht2⟩
      replace hJ := HJ.out _ _ _ hJ ht2 ⟨j + 1 + mo, by omega, hs2⟩
      clear hs ht2
      obtain ⟨fn, tmps, assign, body, hyy, hR⟩ := HY.out pre x w2 hJ ⟨_, by rw [List.append_assoc]; exact hsc⟩
      have HRR := Lib.hid hR
      unfold encT at hyy
      clear hR hJ
      gi_wp2_with fail
      refine HRR.out.mono ?_
      rintro e w3 ⟨hk3, (⟨rfl, hJ3⟩ | ⟨rfl, hD3⟩)⟩
      · have hs3 := hs2.kc hk3
        clear hyy HRR hk3 hs2
        have hfit := skp_fit (l := l) (j := j + 1 + mo) (by omega)
        have hsk3 := skp_at0 l (j + 1 + mo)
        have hsc3 := scan_at_skip l (j + 1 + mo)
        gi_wp2_with fail
        refine ⟨trivial, ?_⟩
        (with_reducible refine (callsIn_wide.2 (hSk.out (j + 1 + mo) (by omega) _ hs3)).mono ?_); rintro e w4 ⟨rfl, hs4, ht4⟩
        have hJ4 := HJ.out _ _ _ hJ3 (It.tn ht4) ⟨_, hfit, hs4⟩
        rw [hsc3] at hsc
        have hgt : j < j + 1 + mo + skp false (l.drop (j + 1 + mo)) := by omega
        generalize j + 1 + mo + skp false (l.drop (j + 1 + mo)) = j4 at hs4 hsc hfit hsk3 hgt
        have hc4 := Lib.hid hs4.c1
        have hsc4 := Lib.hid hsc
        clear hsc hsc3
        gi_wp2_with fail
        go_roundw
        case rel => exact ⟨j4, pre ++ [x], hfit, hsk3, by rw [List.append_assoc]; exact hsc4.out, hs4, hJ4⟩
        case measure =>
          rw [hc0.out, hc4.out]
          simp [intOf]
          omega
      · clear hyy HRR hk3 hs2
        gi_wp2_with fail
        refine bodyPost_ret (results_none rfl _ _ _) rfl ?_
        exact ⟨⟨_, rfl⟩, .inr hD3⟩
    · have hm := hM.out j wr hs
      rw [decide_eq_false hlt] at hm
      rw [scan_over (by omega), List.append_nil] at hsc
      subst hsc
      gi_wp2_with fail
      refine ⟨trivial, ?_⟩
      (with_reducible refine (callsIn_wide.2 hm).mono ?_); rintro e w1 ⟨rfl, m1, hw⟩
      replace hJ := HJ.out _ _ _ hJ ((It.refl b wr).drewN m1) ⟨j, hj, hs.drewN m1⟩
      rw [← hw] at hJ
      clear hw hm
      gi_wp2_with fail
      go_end0
      exact ⟨⟨_, rfl⟩, .inl hJ⟩

theorem tokens_hands (n : Nat) (hn : 1 ≤ n) (l : List (BitVec 8)) (hl : l.length ≤ 65536) (b f1 f2 : Nat) (w : World) (hs : ScB w b f1 f2 l 0) :
    HandsC Fence.wide n Try.prog 27 #[.pointer (some ⟨b, 0, none⟩)] #[] encT b (fun C => ∃ j, j ≤ l.length ∧ ScB C b f1 f2 l j) (ownS b f1 f2) (scan 0 l) w := fun lp J D W hW hJ hD hY h0 =>
  tokens_in n hn lp l hl b f1 f2 J D W hJ hD hY (hs.keep hW) h0
end Go.Proofs.Ythjpcafnbniafaa
