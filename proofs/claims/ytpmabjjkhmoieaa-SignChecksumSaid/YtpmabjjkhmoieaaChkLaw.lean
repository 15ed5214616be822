/- SignChecksum returns true. -/
import Derived.Test.YtpmabjjkhmoieaaAwake
import Derived.Test.YtpmabjjkhmoieaaChkM
import Derived.Test.YtpmabjjkhmoieaaFrame
namespace Go.Proofs.Ytpmabjjkhmoieaa
open Go.RowKit Go.Joins
namespace Chk

theorem num_step (d : BitVec 64) (k : Nat) (h : k < 16) : bits .or .u64 (numTo d k : Int) (IntKind.u64.wrap ((digN d k : Int) * 2 ^ (4 * k))) = ((numTo d (k + 1) : Nat) : Int) := by
  have hd : digN d k = hexN d k := by unfold digN; rw [if_pos h]
  have hlt : digN d k * 16 ^ k < 18446744073709551616 := by
    have h1 := digN_lt d k
    have h2 : 16 ^ k ≤ 16 ^ 15 := Nat.pow_le_pow_right (by decide) (by omega)
    have h3 : digN d k * 16 ^ k ≤ 15 * 16 ^ 15 := Nat.mul_le_mul (by omega) h2
    omega
  have e1 : ((digN d k : Int) * 2 ^ (4 * k)) = ((digN d k * 16 ^ k : Nat) : Int) := by
    rw [Int.natCast_mul, Int.natCast_pow, show (16 : Nat) = 2 ^ 4 from rfl, ← Int.natCast_pow, ← Nat.pow_mul, Int.natCast_pow]; rfl
  have e2 : numTo d k < 18446744073709551616 := by
    unfold numTo
    have := Nat.mod_le d.toNat (16 ^ k)
    have := d.isLt
    omega
  rw [e1, wrapU, BitVec.toNat_ofNat, Nat.mod_eq_of_lt hlt, u64_or_nat _ _ e2 hlt, numTo_succ, hd]

set_option maxRecDepth 100000 in
set_option maxHeartbeats 8000000 in
theorem law (d e : BitVec 64) (w : World) :
    Calls Try.prog 6 #[U64 d, U64 e] w fun r w' => r = .returned (.bool true) ∧ Below w.heap.size w w' := by
  have HD : Hid (∀ (x : BitVec 64) (W : World), _) := fun x W => digits_any x W
  have HA : Hid (∀ W : World, _) := fun W => awake_true W
  have hz := zero_tI (fun _ => .int .i64 0)
  obtain ⟨Z, hZ⟩ : ∃ Z, parV 18 (fun _ => Value.int .i64 0) (.int .i64 0) 0 = Z := ⟨_, rfl⟩
  rw [hZ] at hz
  have hZs : Z.size = 18 := by rw [← hZ, parV_size]
  clear hZ
  have td : Hid (∀ i, i < 18 → (rowI (digN d) 18)[i]? = some (.int .i64 (digN d i : Int))) := fun i h => rowI_get _ _ _ h
  have te : Hid (∀ i, i < 18 → (rowI (digN e) 18)[i]? = some (.int .i64 (digN e i : Int))) := fun i h => rowI_get _ _ _ h
  have sd : (rowI (digN d) 18).size = 18 := rowI_size _ _
  have se : (rowI (digN e) 18).size = 18 := rowI_size _ _
  have od := rowI_one (digN d) 18
  have oe := rowI_one (digN e) 18
  have HDd := Lib.hid (HD.out d)
  have HDe := Lib.hid (HD.out e)
  generalize rowI (digN d) 18 = Td at *
  generalize rowI (digN e) 18 = Te at *
  have hid : (Try.prog.info? 24).map (·.size) = some Td.size := by rw [sd]; exact info_tI
  have hie : (Try.prog.info? 24).map (·.size) = some Te.size := by rw [se]; exact info_tI
  have zd : Z.size = Td.size := by rw [sd, hZs]
  have ze : Z.size = Te.size := by rw [se, hZs]
  clear sd se
  go_enter Try.func6, Try.ntmps6
  have hB := Below.refl w.heap.size w
  go_wp2_with fail
  (with_reducible refine (HDd.out _).mono ?_); rintro r w1 ⟨rfl, hb1⟩
  replace hB := hB.trans (hb1.mono hB.size)
  clear hb1
  go_wp2_with fail
  (with_reducible refine (HDe.out _).mono ?_); rintro r w2 ⟨rfl, hb2⟩
  replace hB := hB.trans (hb2.mono hB.size)
  clear hb2
  have b0 : BoxN ((w2.alloc (.cells Z 24)).alloc (.cells Z 24)) w2.heap.size 24 Z := (BoxN.new w2 _ _).alloc _
  have b1 : BoxN ((w2.alloc (.cells Z 24)).alloc (.cells Z 24)) (w2.heap.size + 1) 24 Z := by
    have := BoxN.new (w2.alloc (.cells Z 24)) 24 Z
    rwa [World.size_alloc] at this
  have hz2 := hB.size
  have hBa : Below w.heap.size w ((w2.alloc (.cells Z 24)).alloc (.cells Z 24)) := (hB.alloc hz2 _).alloc (by simp; omega) _
  have r0 := BoxN.setRow b0 Td
  have r1 := BoxN.farRow b1 (g := w2.heap.size) (by omega) Td
  have q1 := BoxN.setRow r1 Te
  have q0 := BoxN.farRow r0 (g := w2.heap.size + 1) (by omega) Te
  have hBc := below_setRow (below_setRow hBa hz2 Td) (g := w2.heap.size + 1) (by omega) Te
  go_wp2_with (first | (refine wpList_store_rowTo rfl 24 _ _ rfl rfl w2.heap.size Td rfl rfl _ Z b0 hid zd od ?_) | (refine wpList_store_rowTo rfl 24 _ _ rfl rfl (w2.heap.size + 1) Te rfl rfl _ Z r1 hie ze oe ?_))
  clear b0 b1 r0 r1 hBa hB hz zd ze hid hie od oe hZs HDd HDe
  generalize (((w2.alloc (.cells Z 24)).alloc (.cells Z 24)).setRow w2.heap.size Td).setRow (w2.heap.size + 1) Te = W3 at q0 q1 hBc ⊢
  generalize w2.heap.size = g0 at q0 q1 hz2 ⊢
  go_loopw [7, 8, 9, 10, 16] (fun l m s n i wr => ∃ k : Nat, k ≤ 18 ∧ i = .int .i64 k ∧ l = .int .i64 (lessTo d e k : Int) ∧ m = .int .i64 (lessTo e d k : Int) ∧ s = .int .i64 (chkTo d (min k 16) : Int) ∧ n = .int .u64 (numTo d (min k 16) : Int) ∧ BoxN wr g0 24 Td ∧ BoxN wr (g0 + 1) 24 Te ∧ Below w.heap.size w wr)
    (fun _ _ _ _ i _ => (18 - intOf i).toNat)
  case atStart => exact ⟨0, by omega, rfl, rfl, rfl, rfl, by rw [show min 0 16 = 0 from rfl, numTo_zero]; rfl, q0, q1, hBc⟩
  case round =>
    clear q0 q1 hBc
    obtain ⟨k, hk, rfl, rfl, rfl, rfl, rfl, q0, q1, hB⟩ := hrel
    by_cases hlt : k < 18
    · have hd : decide ((k : Int) < 18) = true := by simp; omega
      have c0 := q0.cell k
      have c1 := q1.cell k
      rw [td.out k hlt] at c0
      rw [te.out k hlt] at c1
      have hAd := digN_lt d k
      have hL1 : Hid (lessTo d e (k + 1) = lessTo d e k + (if digN d k < digN e k then 1 else 0)) := rfl
      have hL2 : Hid (lessTo e d (k + 1) = lessTo e d k + (if digN e k < digN d k then 1 else 0)) := rfl
      have hl1 := lessTo_le d e k
      have hl2 := lessTo_le e d k
      have d0 : decide ((digN d k : Int) < 0) = false := by simp
      have d15 : decide ((15 : Int) < (digN d k : Int)) = false := by simp; omega
      have hAe := digN_lt e k
      have hx : k < 16 → hexN d k = digN d k := fun h => by unfold digN; rw [if_pos h]
      have hS1 : Hid (k < 16 → chkTo d (k + 1) = chkTo d k + (15 - digN d k)) := fun h => by rw [← hx h]; rfl
      have hN1 : Hid (k < 16 → numTo d (k + 1) = numTo d k ||| (digN d k * 16 ^ k)) := fun h => by rw [← hx h]; exact numTo_succ d k
      have hc := chkTo_le d (min k 16)
      have HN : Hid (k < 16 → bits .or .u64 (numTo d k : Int) (IntKind.u64.wrap ((digN d k : Int) * 2 ^ (4 * k))) = ((numTo d (k + 1) : Nat) : Int)) := fun h => num_step d k h
      clear hx
      generalize digN d k = A at *
      generalize digN e k = B at *
      generalize lessTo d e k = L1 at *
      generalize lessTo e d k = L2 at *
      go_wp2_with fail
      go_quiet (fail)
      replace q0 := q0.drewN nq
      replace q1 := q1.drewN nq
      replace hB := below_drewN hB nq
      replace c0 : (wr.drewN nq).cell? ⟨g0, k, none⟩ = some (.int .i64 A) := by rw [World.cell?_drewN]; exact c0
      replace c1 : (wr.drewN nq).cell? ⟨g0 + 1, k, none⟩ = some (.int .i64 B) := by rw [World.cell?_drewN]; exact c1
      generalize wr.drewN nq = wr1 at q0 q1 hB c0 c1 ⊢
      have tri : A < B ∨ A = B ∨ B < A := by omega
      rcases tri with h1 | h1 | h1
      · have e1 : decide ((A : Int) < (B : Int)) = true := by simp; omega
        have e2 : decide ((B : Int) < (A : Int)) = false := by simp; omega
        go_wp2_with fail
        go_quiet (fail)
        replace q0 := q0.drewN nq
        replace q1 := q1.drewN nq
        replace hB := below_drewN hB nq
        replace c0 : (wr1.drewN nq).cell? ⟨g0, k, none⟩ = some (.int .i64 A) := by rw [World.cell?_drewN]; exact c0
        replace c1 : (wr1.drewN nq).cell? ⟨g0 + 1, k, none⟩ = some (.int .i64 B) := by rw [World.cell?_drewN]; exact c1
        generalize wr1.drewN nq = wr2 at q0 q1 hB c0 c1 ⊢
        by_cases h16 : k < 16
        · have e3 : decide ((k : Int) < 16) = true := by simp; omega
          rw [show min k 16 = k by omega] at hc ⊢
          go_wp2_with fail
          go_roundw
          case rel => exact ⟨k + 1, by omega, by go_num, by rw [hL1.out, if_pos h1]; exact congrArg _ (by omega), by rw [hL2.out, if_neg (by omega)]; exact congrArg _ (by omega), by rw [show min (k + 1) 16 = k + 1 by omega, hS1.out h16]; exact congrArg _ (by omega), by rw [show min (k + 1) 16 = k + 1 by omega, ← HN.out h16], q0, q1, hB⟩
          case measure => simp [intOf]; omega
        · have e3 : decide ((k : Int) < 16) = false := by simp; omega
          go_wp2_with fail
          go_roundw
          case rel => exact ⟨k + 1, by omega, by go_num, by rw [hL1.out, if_pos h1]; exact congrArg _ (by omega), by rw [hL2.out, if_neg (by omega)]; exact congrArg _ (by omega), by rw [show min (k + 1) 16 = min k 16 by omega], by rw [show min (k + 1) 16 = min k 16 by omega], q0, q1, hB⟩
          case measure => simp [intOf]; omega
      · subst h1
        have e1 : decide ((A : Int) < (A : Int)) = false := by simp
        go_wp2_with fail
        go_quiet (fail)
        replace q0 := q0.drewN nq
        replace q1 := q1.drewN nq
        replace hB := below_drewN hB nq
        replace c0 : (wr1.drewN nq).cell? ⟨g0, k, none⟩ = some (.int .i64 A) := by rw [World.cell?_drewN]; exact c0
        replace c1 : (wr1.drewN nq).cell? ⟨g0 + 1, k, none⟩ = some (.int .i64 A) := by rw [World.cell?_drewN]; exact c1
        generalize wr1.drewN nq = wr2 at q0 q1 hB c0 c1 ⊢
        by_cases h16 : k < 16
        · have e3 : decide ((k : Int) < 16) = true := by simp; omega
          rw [show min k 16 = k by omega] at hc ⊢
          go_wp2_with fail
          go_roundw
          case rel => exact ⟨k + 1, by omega, by go_num, by rw [hL1.out, if_neg (by omega)]; exact congrArg _ (by omega), by rw [hL2.out, if_neg (by omega)]; exact congrArg _ (by omega), by rw [show min (k + 1) 16 = k + 1 by omega, hS1.out h16]; exact congrArg _ (by omega), by rw [show min (k + 1) 16 = k + 1 by omega, ← HN.out h16], q0, q1, hB⟩
          case measure => simp [intOf]; omega
        · have e3 : decide ((k : Int) < 16) = false := by simp; omega
          go_wp2_with fail
          go_roundw
          case rel => exact ⟨k + 1, by omega, by go_num, by rw [hL1.out, if_neg (by omega)]; exact congrArg _ (by omega), by rw [hL2.out, if_neg (by omega)]; exact congrArg _ (by omega), by rw [show min (k + 1) 16 = min k 16 by omega], by rw [show min (k + 1) 16 = min k 16 by omega], q0, q1, hB⟩
          case measure => simp [intOf]; omega
      · have e1 : decide ((A : Int) < (B : Int)) = false := by simp; omega
        have e2 : decide ((B : Int) < (A : Int)) = true := by simp; omega
        go_wp2_with fail
        go_quiet (fail)
        replace q0 := q0.drewN nq
        replace q1 := q1.drewN nq
        replace hB := below_drewN hB nq
        replace c0 : (wr1.drewN nq).cell? ⟨g0, k, none⟩ = some (.int .i64 A) := by rw [World.cell?_drewN]; exact c0
        replace c1 : (wr1.drewN nq).cell? ⟨g0 + 1, k, none⟩ = some (.int .i64 B) := by rw [World.cell?_drewN]; exact c1
        generalize wr1.drewN nq = wr2 at q0 q1 hB c0 c1 ⊢
        by_cases h16 : k < 16
        · have e3 : decide ((k : Int) < 16) = true := by simp; omega
          rw [show min k 16 = k by omega] at hc ⊢
          go_wp2_with fail
          go_roundw
          case rel => exact ⟨k + 1, by omega, by go_num, by rw [hL1.out, if_neg (by omega)]; exact congrArg _ (by omega), by rw [hL2.out, if_pos h1]; exact congrArg _ (by omega), by rw [show min (k + 1) 16 = k + 1 by omega, hS1.out h16]; exact congrArg _ (by omega), by rw [show min (k + 1) 16 = k + 1 by omega, ← HN.out h16], q0, q1, hB⟩
          case measure => simp [intOf]; omega
        · have e3 : decide ((k : Int) < 16) = false := by simp; omega
          go_wp2_with fail
          go_roundw
          case rel => exact ⟨k + 1, by omega, by go_num, by rw [hL1.out, if_neg (by omega)]; exact congrArg _ (by omega), by rw [hL2.out, if_pos h1]; exact congrArg _ (by omega), by rw [show min (k + 1) 16 = min k 16 by omega], by rw [show min (k + 1) 16 = min k 16 by omega], q0, q1, hB⟩
          case measure => simp [intOf]; omega
    · obtain rfl : k = 18 := by omega
      rw [show min 18 16 = 16 from rfl, numTo_full]
      have a0 := q0.cell 16
      have a1 := q0.cell 17
      rw [td.out 16 (by decide)] at a0
      rw [td.out 17 (by decide)] at a1
      have hsum := dig_sum d
      have h16 := digN_lt d 16
      have h17 := digN_lt d 17
      have hp1 := less_pos d e
      have hp2 := less_pos e d
      have hl1 := lessTo_le d e 18
      have hl2 := lessTo_le e d 18
      generalize lessTo d e 18 = L1 at *
      generalize lessTo e d 18 = L2 at *
      generalize digN d 16 = A at *
      generalize digN d 17 = B at *
      generalize chkTo d 16 = C at *
      have es : (A : Int) + 16 * (B : Int) = (C : Int) := by omega
      clear hlt hk
      by_cases hde : d = e
      · subst hde
        have z1 : L1 = 0 := by rcases Nat.eq_zero_or_pos L1 with h | h; exact h; exact absurd rfl (hp1.1 h)
        have z2 : L2 = 0 := by rcases Nat.eq_zero_or_pos L2 with h | h; exact h; exact absurd rfl (hp2.1 h)
        subst z1 z2
        clear hp1 hp2
        go_wp2_with fail
        (with_reducible refine (HA.out _).mono ?_); rintro r w4 ⟨rfl, hb4⟩
        replace hB := hB.trans (hb4.mono hB.size)
        go_wp2_with fail
        go_ret
        exact ⟨rfl, hB⟩
      · have z1 := hp1.2 hde
        have z2 := hp2.2 (fun h => hde h.symm)
        have w1 : decide ((0 : Int) < (L1 : Int)) = true := by simp; omega
        have w2 : decide ((0 : Int) < (L2 : Int)) = true := by simp; omega
        have hne : ((d.toNat : Int) != (e.toNat : Int)) = true := by
          simp only [bne_iff_ne, ne_eq]
          intro h
          exact hde (BitVec.eq_of_toNat_eq (by omega))
        clear hp1 hp2 hde
        go_wp2_with fail
        (with_reducible refine (HA.out _).mono ?_); rintro r w4 ⟨rfl, hb4⟩
        replace hB := hB.trans (hb4.mono hB.size)
        go_wp2_with fail
        go_ret
        exact ⟨rfl, hB⟩
theorem walk (a b : Int) (w : World) (ha0 : 0 ≤ a) (ha1 : a ≤ 18446744073709551615) (hb0 : 0 ≤ b) (hb1 : b ≤ 18446744073709551615) :
    Calls Try.prog 6 #[.int .u64 a, .int .u64 b] w fun e w' => e = .returned (.bool true) ∧ Below w.heap.size w w' := by
  obtain ⟨a, rfl⟩ := int_bv (n := 64) ha0 (by omega)
  obtain ⟨b, rfl⟩ := int_bv (n := 64) hb0 (by omega)
  exact law a b w
end Chk
end Go.Proofs.Ytpmabjjkhmoieaa
