/- The contract of Verify. -/
import Derived.Test.YtaoipbndmfjmhaaSub
namespace Go.Proofs.Ytaoipbndmfjmhaa
open Go.RowKit Go.Joins

/-- What Verify computes. -/
def verV (q : Nat) (d : BitVec 64) (f : Nat → BitVec 64) (l : List (BitVec 64)) : BitVec 64 := climb q 0 l (pubV fun i => advTo i (digN d i) 15 (f i))

theorem key_bit (q k : Nat) (h : q < 64) : (bits .and .i64 ((q : Int) / 2 ^ k) 1 == 0) = decide (q / 2 ^ k % 2 = 0) := by
  have e : (q : Int) / 2 ^ k = ((q / 2 ^ k : Nat) : Int) := by rw [Int.natCast_ediv, Int.natCast_pow]; rfl
  have hlt : q / 2 ^ k < 64 := Nat.lt_of_le_of_lt (Nat.div_le_self _ _) h
  rw [e]
  exact (show ∀ m : Fin 64, (bits .and .i64 (m.val : Int) 1 == 0) = decide (m.val % 2 = 0) by decide) ⟨_, hlt⟩

set_option maxRecDepth 100000 in
set_option maxHeartbeats 4000000 in
theorem verify_yes (root d : BitVec 64) (h q : Nat) (f : Nat → BitVec 64) (G : Option Addr) (c : Nat) (l : List (BitVec 64)) (hlen : l.length = h) (hh : h ≤ 6) (hq : q < 2 ^ h) (w : World) (hl : isQ G l w) :
    Calls Try.prog 27 #[U64 root, .int .i64 h, U64 d, .agg (sgA q f (.slice G h c))] w fun e w' => e = .returned (.bool (decide (verV q d f l = root))) ∧ Below w.heap.size w w' := by
  have HK : Hid (∀ W : World, Calls Try.prog 44 #[.int .i64 q, .int .i64 h] W fun e w' => e = .returned (.bool true) ∧ Below W.heap.size W w') := fun W => by
    have := isKey_any (q : Int) (h : Int) W
    rwa [show okK (q : Int) (h : Int) = true by
      unfold okK; rw [Int.toNat_natCast]
      have : ((2 ^ h : Nat) : Int) = (2 : Int) ^ h := Int.natCast_pow 2 h
      simp; omega] at this
  have HD : Hid (∀ W : World, _) := fun W => digits_any d W
  have HEn : Hid (∀ W : World, _) := fun W => ends_any W
  have HA : Hid (∀ W : World, Calls Try.prog 38 #[.agg (rowW f 18), .agg (rowI (digN d) 18), .agg (rowI (fun _ => 15) 18)] W fun e w' => e = .returned (.agg (rowW (fun i => advTo i (digN d i) 15 (f i)) 18)) ∧ Below W.heap.size W w') := fun W => advanced_any f (digN d) (fun _ => 15) (fun _ _ => Nat.le_refl _) W
  have HPu : Hid (∀ W : World, _) := fun W => public_any (fun i => advTo i (digN d i) 15 (f i)) W
  have HPr : Hid (∀ (a b : BitVec 64) (W : World), Calls Try.prog 50 #[U64 a, U64 b] W fun e w' => e = .returned (U64 (pr a b)) ∧ Below W.heap.size W w') := fun a b W => pair_any a b W
  have hbx := BoxN.new w 34 (sgA q f (.slice G h c))
  have hB : Below w.heap.size w (w.alloc (.cells (sgA q f (.slice G h c)) 34)) := (Below.refl _ w).alloc (Nat.le_refl _) _
  have hkey : Hid (∀ W, BoxN W w.heap.size 34 (sgA q f (.slice G h c)) → W.cell? ⟨w.heap.size, 0, none⟩ = some (.int .i64 (q : Int)) ∧ W.cell? ⟨w.heap.size, 19, none⟩ = some (.slice G h c)) := fun W hb => ⟨by rw [hb.cell, sgA_key], by rw [hb.cell, sgA_path]⟩
  have hchn : Hid (∀ W, BoxN W w.heap.size 34 (sgA q f (.slice G h c)) → (loadVar 31 ⟨w.heap.size, 1, none⟩).run Try.prog W = .ok (.agg (rowW f 18)) W) := fun W hb => load_chain hb
  have HV : Hid (verV q d f l = climb q 0 l (pubV fun i => advTo i (digN d i) 15 (f i))) := rfl
  generalize verV q d f l = y at *
  generalize rowW f 18 = R1 at *
  generalize rowI (digN d) 18 = R2 at *
  generalize rowI (fun _ => 15) 18 = R3 at *
  generalize rowW (fun i => advTo i (digN d i) 15 (f i)) 18 = R4 at *
  generalize pubV (fun i => advTo i (digN d i) 15 (f i)) = x0 at *
  generalize sgA q f (.slice G h c) = T at *
  go_enter Try.func27, Try.ntmps27
  obtain ⟨c0, c19⟩ := hkey.out _ hbx
  go_wp2_with fail
  clear c0 c19
  generalize w.alloc (.cells T 34) = w0 at hbx hB ⊢
  (with_reducible refine (HK.out _).mono ?_); rintro e w1 ⟨rfl, hb1⟩
  replace hbx := hbx.keep hb1
  replace hB := hB.trans (hb1.mono hB.size)
  obtain ⟨c0, c19⟩ := hkey.out _ hbx
  have hhh : ((h : Int) != (h : Int)) = false := by simp
  clear hb1
  go_wp2_with fail
  clear c0 c19 hhh
  have b0d := BoxN.drew hbx
  refine wp_region_inv (Inv := fun L a W => ∃ b0 b1 b2 b3 b4 b5 b6 b7 : Bool, L = #[b0, b1, b2, b3, b4, b5, b6, b7] ∧ a = { tmps := #[U64 root, .int .i64 h, U64 d, .agg T, undef, undef, undef, .pointer (some ⟨w.heap.size, 0, none⟩), .bool false, (bif b7 then U64 x0 else undef), undef, undef, .pointer (some ⟨w.heap.size, 0, none⟩), .int .i64 q, .int .i64 h, .bool true, .bool false, .bool false, .pointer (some ⟨w.heap.size, 19, none⟩), .slice G h c, .int .i64 h, .int .i64 h, .bool false, .bool false, (bif b0 then .pointer (some ⟨w.heap.size, 1, none⟩) else undef), (bif b1 then .agg R1 else undef), (bif b2 then U64 d else undef), (bif b3 then .agg R2 else undef), (bif b4 then .agg R3 else undef), (bif b5 then .agg R4 else undef), (bif b6 then U64 x0 else undef), undef, undef, undef, undef, undef, undef, undef, undef, undef, undef, undef, undef, undef, undef, undef, undef, undef, undef, undef, undef, undef, undef, undef, undef], defers := [] } ∧ Below w1.heap.size w1 W) (by kernel_rfl) (down_of (by decide +kernel)) ?start ?size ?done ?step
  case start => exact ⟨false, false, false, false, false, false, false, false, rfl, rfl, (Below.refl _ _).drew⟩
  case size =>
    rintro L a W ⟨b0, b1, b2, b3, b4, b5, b6, b7, rfl, -⟩
    rfl
  case step =>
    rintro L a W i o ⟨b0, b1, b2, b3, b4, b5, b6, b7, rfl, rfl, hBW⟩ ho hl' hdep
    have hi : i < 8 := (Array.getElem?_eq_some_iff.1 ho).1
    have hi' : i = 0 ∨ i = 1 ∨ i = 2 ∨ i = 3 ∨ i = 4 ∨ i = 5 ∨ i = 6 ∨ i = 7 := by omega
    clear hi
    have HBW := Lib.hid hBW
    clear hBW b0d
    have hch := Lib.hid (hchn.out W (hbx.keep HBW.out))
    rcases hi' with rfl | rfl | rfl | rfl | rfl | rfl | rfl | rfl
    · cases ho
      obtain rfl : b0 = false := hl'
      clear hdep
      refine wpOp_step rfl (fun K hK => ?_)
      go_simp
      refine hK _ _ ?_; clear hK K
      exact ⟨true, b1, b2, b3, b4, b5, b6, b7, rfl, rfl, HBW.out⟩
    · cases ho
      obtain rfl : b1 = false := hl'
      obtain rfl : b0 = true := hdep ⟨0, .data⟩ (by simp) rfl
      clear hdep
      refine wpOp_step rfl (fun K hK => ?_)
      refine step_load_sub (by rfl) 31 _ rfl ⟨w.heap.size, 1, none⟩ rfl (.agg R1) hch.out ?_
      refine hK _ _ ?_; clear hK K
      exact ⟨true, true, b2, b3, b4, b5, b6, b7, rfl, rfl, HBW.out⟩
    · cases ho
      obtain rfl : b2 = false := hl'
      clear hdep
      refine wpOp_step rfl (fun K hK => ?_)
      go_simp
      refine hK _ _ ?_; clear hK K
      exact ⟨b0, b1, true, b3, b4, b5, b6, b7, rfl, rfl, HBW.out⟩
    · cases ho
      obtain rfl : b3 = false := hl'
      obtain rfl : b2 = true := hdep ⟨2, .data⟩ (by simp) rfl
      clear hdep
      refine wpOp_step rfl (fun K hK => ?_)
      simp only [cond_true]
      go_simp
      (with_reducible refine (HD.out _).mono ?_); rintro e W2 ⟨rfl, hb2⟩
      refine hK _ _ ?_; clear hK K
      exact ⟨b0, b1, true, true, b4, b5, b6, b7, rfl, rfl, HBW.out.trans (hb2.mono HBW.out.size)⟩
    · cases ho
      obtain rfl : b4 = false := hl'
      clear hdep
      refine wpOp_step rfl (fun K hK => ?_)
      go_simp
      (with_reducible refine (HEn.out _).mono ?_); rintro e W2 ⟨rfl, hb2⟩
      refine hK _ _ ?_; clear hK K
      exact ⟨b0, b1, b2, b3, true, b5, b6, b7, rfl, rfl, HBW.out.trans (hb2.mono HBW.out.size)⟩
    · cases ho
      obtain rfl : b5 = false := hl'
      obtain rfl : b1 = true := hdep ⟨1, .data⟩ (by simp) rfl
      obtain rfl : b3 = true := hdep ⟨3, .data⟩ (by simp) rfl
      obtain rfl : b4 = true := hdep ⟨4, .data⟩ (by simp) rfl
      clear hdep
      refine wpOp_step rfl (fun K hK => ?_)
      simp only [cond_true]
      go_simp
      (with_reducible refine (HA.out _).mono ?_); rintro e W2 ⟨rfl, hb2⟩
      refine hK _ _ ?_; clear hK K
      exact ⟨b0, true, b2, true, true, true, b6, b7, rfl, rfl, HBW.out.trans (hb2.mono HBW.out.size)⟩
    · cases ho
      obtain rfl : b6 = false := hl'
      obtain rfl : b5 = true := hdep ⟨5, .data⟩ (by simp) rfl
      clear hdep
      refine wpOp_step rfl (fun K hK => ?_)
      simp only [cond_true]
      go_simp
      (with_reducible refine (HPu.out _).mono ?_); rintro e W2 ⟨rfl, hb2⟩
      refine hK _ _ ?_; clear hK K
      exact ⟨b0, b1, b2, b3, b4, true, true, b7, rfl, rfl, HBW.out.trans (hb2.mono HBW.out.size)⟩
    · cases ho
      obtain rfl : b7 = false := hl'
      obtain rfl : b6 = true := hdep ⟨6, .data⟩ (by simp) rfl
      clear hdep
      refine wpOp_step rfl (fun K hK => ?_)
      simp only [cond_true]
      go_simp
      refine hK _ _ ?_; clear hK K
      exact ⟨b0, b1, b2, b3, b4, b5, true, true, rfl, rfl, HBW.out⟩
  case done =>
    rintro L a W ⟨q0, q1, q2, q3, q4, q5, q6, q7, rfl, rfl, hBW⟩ hall
    obtain rfl : q0 = true := hall 0 (by decide)
    obtain rfl : q1 = true := hall 1 (by decide)
    obtain rfl : q2 = true := hall 2 (by decide)
    obtain rfl : q3 = true := hall 3 (by decide)
    obtain rfl : q4 = true := hall 4 (by decide)
    obtain rfl : q5 = true := hall 5 (by decide)
    obtain rfl : q6 = true := hall 6 (by decide)
    obtain rfl : q7 = true := hall 7 (by decide)
    simp only [cond_true]
    replace hbx := BoxN.keep hbx hBW
    replace hB := hB.trans (hBW.mono hB.size)
    obtain ⟨c0, c19⟩ := hkey.out _ hbx
    clear hall hBW b0d
    go_wp2_with fail
    clear c0 c19
    go_loopw [9, 34] (fun y j wr => ∃ k : Nat, k ≤ h ∧ j = .int .i64 k ∧ y = U64 (climb q 0 (l.take k) x0) ∧ BoxN wr w.heap.size 34 T ∧ Below w.heap.size w wr)
      (fun _ j _ => (h - intOf j).toNat)
    case atStart => exact ⟨0, by omega, rfl, by simp [climb], hbx, hB⟩
    case round =>
      clear hbx hB
      obtain ⟨k, hk, rfl, rfl, hbx, hB⟩ := hrel
      by_cases hlt : k < h
      · have hd : decide ((k : Int) < (h : Int)) = true := by simp; omega
        have hgk : l[k]? = some (l[k]'(by omega)) := List.getElem?_eq_getElem _
        obtain ⟨z, hz⟩ : ∃ z, l[k]'(by omega) = z := ⟨_, rfl⟩
        rw [hz] at hgk
        obtain ⟨b, off, rfl, hbl, hr⟩ := hl (by intro e; rw [e] at hlen; simp at hlen; omega)
        have hc := (hB.cell (p := ⟨b, off + k, none⟩) hbl).trans (hr k z hgk)
        have hstep : Hid (climb q 0 (l.take (k + 1)) x0 = (if q / 2 ^ k % 2 = 0 then pr (climb q 0 (l.take k) x0) z else pr z (climb q 0 (l.take k) x0))) := by
          unfold Hid
          rw [take_snoc' hgk, climb_snoc, List.length_take, show 0 + min k l.length = k by omega]
        obtain ⟨c0, c19⟩ := hkey.out _ hbx
        generalize climb q 0 (l.take k) x0 = v at *
        clear hz hgk hr
        have hbit := key_bit q k (Nat.lt_of_lt_of_le hq (Nat.le_trans (Nat.pow_le_pow_right (by decide) hh) (by decide)))
        by_cases he : q / 2 ^ k % 2 = 0
        · rw [if_pos he] at hstep
          rw [decide_eq_true he] at hbit
          have HPs := Lib.hid (HPr.out v z)
          rw [← hstep.out] at HPs
          clear he
          go_wp2_with fail
          (with_reducible refine (HPs.out _).mono ?_); rintro e w5 ⟨rfl, hb5⟩
          replace hbx := Lib.hid (hbx.keep hb5)
          replace hB := Lib.hid (hB.trans (hb5.mono hB.size))
          clear hb5 c0 c19 hc
          go_wp2_with fail
          go_roundw
          case rel => exact ⟨k + 1, by omega, by go_num, rfl, hbx.out, hB.out⟩
          case measure => simp [intOf]; omega
        · rw [if_neg he] at hstep
          rw [decide_eq_false he] at hbit
          have HPs := Lib.hid (HPr.out z v)
          rw [← hstep.out] at HPs
          clear he
          go_wp2_with fail
          (with_reducible refine (HPs.out _).mono ?_); rintro e w5 ⟨rfl, hb5⟩
          replace hbx := Lib.hid (hbx.keep hb5)
          replace hB := Lib.hid (hB.trans (hb5.mono hB.size))
          clear hb5 c0 c19 hc
          go_wp2_with fail
          go_roundw
          case rel => exact ⟨k + 1, by omega, by go_num, rfl, hbx.out, hB.out⟩
          case measure => simp [intOf]; omega
      · obtain rfl : k = h := by omega
        rw [List.take_of_length_le (by omega)]
        have hres : Hid (climb q 0 l x0 = y) := by unfold Hid; rw [HV.out]
        rw [hres.out]
        have hbeq : Hid (((y.toNat : Int) == (root.toNat : Int)) = decide (y = root)) := by
          unfold Hid
          rw [Bool.eq_iff_iff, beq_iff_eq, decide_eq_true_iff]
          exact ⟨fun e => BitVec.eq_of_toNat_eq (by omega), fun e => by rw [e]⟩
        go_wp2_with fail
        go_ret
        exact ⟨by rw [← hbeq.out]; rfl, hB⟩

set_option maxRecDepth 100000 in
set_option maxHeartbeats 1000000 in
theorem verify_no (root d : BitVec 64) (h q : Int) (f : Nat → BitVec 64) (G : Option Addr) (n c : Nat) (hno : okK q h = false ∨ (n : Int) ≠ h) (w : World) :
    Calls Try.prog 27 #[U64 root, .int .i64 h, U64 d, .agg (sgA q f (.slice G n c))] w fun e w' => e = .returned (.bool false) ∧ Below w.heap.size w w' := by
  have HK : Hid (∀ W : World, _) := fun W => isKey_any q h W
  have b0 := BoxN.new w 34 (sgA q f (.slice G n c))
  have hB : Below w.heap.size w (w.alloc (.cells (sgA q f (.slice G n c)) 34)) := (Below.refl _ w).alloc (Nat.le_refl _) _
  have hkey : Hid (∀ W, BoxN W w.heap.size 34 (sgA q f (.slice G n c)) → W.cell? ⟨w.heap.size, 0, none⟩ = some (.int .i64 q) ∧ W.cell? ⟨w.heap.size, 19, none⟩ = some (.slice G n c)) := fun W hb => ⟨by rw [hb.cell, sgA_key], by rw [hb.cell, sgA_path]⟩
  generalize sgA q f (.slice G n c) = T at *
  by_cases hk : okK q h = false
  · rw [hk] at HK
    clear hno hk
    go_enter Try.func27, Try.ntmps27
    obtain ⟨c0, c19⟩ := hkey.out _ b0
    go_wp2_with fail
    clear c0 c19
    generalize w.alloc (.cells T 34) = w0 at b0 hB ⊢
    (with_reducible refine (HK.out _).mono ?_); rintro e w1 ⟨rfl, hb1⟩
    replace hB := hB.trans (hb1.mono hB.size)
    go_wp2_with fail
    go_ret
    exact ⟨rfl, hB⟩
  · have hne : (n : Int) ≠ h := by
      rcases hno with h1 | h1
      · exact absurd h1 hk
      · exact h1
    have hne' : (((n : Int) != h)) = true := by simpa using hne
    rw [show okK q h = true by simpa using hk] at HK
    clear hno hk hne
    go_enter Try.func27, Try.ntmps27
    obtain ⟨c0, c19⟩ := hkey.out _ b0
    go_wp2_with fail
    clear c0 c19
    generalize w.alloc (.cells T 34) = w0 at b0 hB ⊢
    (with_reducible refine (HK.out _).mono ?_); rintro e w1 ⟨rfl, hb1⟩
    replace b0 := b0.keep hb1
    replace hB := hB.trans (hb1.mono hB.size)
    obtain ⟨c0, c19⟩ := hkey.out _ b0
    go_wp2_with fail
    go_ret
    exact ⟨rfl, hB⟩
end Go.Proofs.Ytaoipbndmfjmhaa
