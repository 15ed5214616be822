/- The contract of kind. -/
import Derived.Test.YthjpcafnbniafaaSkip
namespace Go.Proofs.Ythjpcafnbniafaa
open Go.RowKit Go.Joins

set_option maxRecDepth 100000 in
set_option maxHeartbeats 1000000 in
theorem kind_any (l : List (BitVec 8)) (b f1 f2 k : Nat) (z : BitVec 8) (hz : l[k]? = some z) (w : World) (hs : ScB w b f1 f2 l k) :
    Calls Try.prog 47 #[.pointer (some ⟨b, 0, none⟩)] w fun e w' => e = .returned (.int .u8 (kd z)) ∧ ∃ m, w' = w.drewN m := by
  have hP : Hid (∀ (W : World), ScB W b f1 f2 l k → Calls Try.prog 46 #[.pointer (some ⟨b, 0, none⟩)] W fun e w' => e = .returned (U8 z) ∧ ∃ m, w' = W.drewN m) := fun W h => peek_any l k b z hz W h.c0 h.c1
  have hL : Hid (∀ W : World, _) := fun W => let_any z W
  have hD : Hid (∀ W : World, _) := fun W => dig_any z W
  have hS : Hid (∀ W : World, ScB W b f1 f2 l k → Calls Try.prog 43 #[U8 z, .pointer (some ⟨f2, 0, none⟩)] W fun e w' => e = .returned (.bool (isSgn z)) ∧ w' = W) := fun W h => by
    have := among1_any signsL (by decide) f2 z W h.x2
    rwa [signs_eq] at this
  obtain ⟨y1, h1⟩ : ∃ x, isLet z = x := ⟨_, rfl⟩
  obtain ⟨y2, h2⟩ : ∃ x, isDig z = x := ⟨_, rfl⟩
  obtain ⟨y3, h3⟩ : ∃ x, isSgn z = x := ⟨_, rfl⟩
  have hK : Hid (kd z = if y1 then 1 else if y2 then 2 else if y3 then 3 else 0) := by unfold Hid kd; rw [h1, h2, h3]
  rw [h1] at hL
  rw [h2] at hD
  rw [h3] at hS
  generalize kd z = r at hK ⊢
  clear h1 h2 h3 hz
  go_enter Try.func47, Try.ntmps47
  go_wp2_with fail
  go_loopw [3] (fun i wr => ∃ q : Nat, i = .int .u8 q ∧ (q = 1 ∨ (q = 2 ∧ y1 = false) ∨ (q = 3 ∧ y1 = false ∧ y2 = false) ∨ (q = 4 ∧ y1 = false ∧ y2 = false ∧ y3 = false)) ∧ ScB wr b f1 f2 l k ∧ ∃ m, wr = w.drewN m)
    (fun i _ => 4 - (intOf i).toNat)
  case atStart => exact ⟨1, rfl, .inl rfl, hs, 0, rfl⟩
  case round =>
    clear hs
    obtain ⟨q, rfl, hq, hs, m0, hm0⟩ := hrel
    have c3 := hs.c3
    have c4 := hs.c4
    have c5 := hs.c5
    have hbl := hs.lt
    have HP : Hid (∀ n, _) := fun n => hP.out (wr.drewN n) (hs.drewN n)
    have HS : Hid (∀ n, _) := fun n => hS.out (wr.drewN n) (hs.drewN n)
    have HDr : Hid (∀ n, ScB (wr.drewN n) b f1 f2 l k ∧ ∃ m, wr.drewN n = w.drewN m) := fun n => ⟨hs.drewN n, m0 + n, by rw [hm0]; simp⟩
    clear hP hS
    rcases hq with rfl | ⟨rfl, rfl⟩ | ⟨rfl, rfl, rfl⟩ | ⟨rfl, rfl, rfl, rfl⟩
    · clear hs hm0
      cases y1
      · go_wp2_with fail
        go_quiet (first | (go_at_call 46; exact Calls.quiet_of (HP.out _)) | (go_at_call 37; exact Calls.quiet_of_same (hL.out _)))
        go_wp2_with fail
        go_roundw
        case rel => exact ⟨2, by go_num, by simp, (HDr.out _).1, (HDr.out _).2⟩
        case measure => simp [intOf]
      · go_wp2_with fail
        go_quiet (first | (go_at_call 46; exact Calls.quiet_of (HP.out _)) | (go_at_call 37; exact Calls.quiet_of_same (hL.out _)))
        go_wp2_with fail
        go_ret
        exact ⟨by rw [hK.out]; rfl, (HDr.out _).2⟩
    · clear hs hm0
      cases y2
      · go_wp2_with fail
        go_quiet (first | (go_at_call 46; exact Calls.quiet_of (HP.out _)) | (go_at_call 38; exact Calls.quiet_of_same (hD.out _)))
        go_wp2_with fail
        go_roundw
        case rel => exact ⟨3, by go_num, by simp, (HDr.out _).1, (HDr.out _).2⟩
        case measure => simp [intOf]
      · go_wp2_with fail
        go_quiet (first | (go_at_call 46; exact Calls.quiet_of (HP.out _)) | (go_at_call 38; exact Calls.quiet_of_same (hD.out _)))
        go_wp2_with fail
        go_ret
        exact ⟨by rw [hK.out]; rfl, (HDr.out _).2⟩
    · clear hs hm0
      cases y3
      · go_wp2_with fail
        go_quiet (first | (go_at_call 46; exact Calls.quiet_of (HP.out _)) | (go_at_call 43; exact Calls.quiet_of_same (HS.out _)))
        go_wp2_with fail
        go_roundw
        case rel => exact ⟨4, by go_num, by simp, (HDr.out _).1, (HDr.out _).2⟩
        case measure => simp [intOf]
      · go_wp2_with fail
        go_quiet (first | (go_at_call 46; exact Calls.quiet_of (HP.out _)) | (go_at_call 43; exact Calls.quiet_of_same (HS.out _)))
        go_wp2_with fail
        go_ret
        exact ⟨by rw [hK.out]; rfl, (HDr.out _).2⟩
    · go_wp2_with fail
      go_ret
      exact ⟨by rw [hK.out]; rfl, _, rfl⟩
end Go.Proofs.Ythjpcafnbniafaa
