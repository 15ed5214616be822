/- DigestPair returns true. -/
import Derived.Test.YtdoliblcilhneaaShare
namespace Go.Proofs.Ytdoliblcilhneaa
open Go.RowKit Go.Joins
namespace DPair

theorem byte_shift (x : BitVec 8) (i j : Nat) (hi : i < 8) (hj : j < 8) : ((x.setWidth 64 <<< (8 * j)) >>> (8 * i)).setWidth 8 = if i = j then x else 0#8 := by
  apply BitVec.eq_of_getLsbD_eq
  intro k hk
  simp only [BitVec.getLsbD_setWidth, BitVec.getLsbD_ushiftRight, BitVec.getLsbD_shiftLeft]
  by_cases h : i = j
  · subst h
    have e1 : 8 * i + k < 64 := by omega
    have e2 : ¬ 8 * i + k < 8 * i := by omega
    have e3 : 8 * i + k - 8 * i = k := by omega
    have e4 : k < 64 := by omega
    simp [e1, e3, e4, hk]
  · rw [if_neg h]
    by_cases h2 : 8 * i + k < 8 * j
    · simp [h2]
    · have e : x.getLsbD (8 * i + k - 8 * j) = false := BitVec.getLsbD_of_ge _ _ (by omega)
      simp [e]
theorem bytes_set (a : BitVec 64) (x : BitVec 8) (j : Nat) (hj : j < 8) : bytes8 (a ^^^ (x.setWidth 64 <<< (8 * j))) = (bytes8 a).set j (byteF a j ^^^ x) := by
  apply List.ext_getElem?
  intro i
  by_cases hi : i < 8
  · rw [List.getElem?_set]
    unfold bytes8
    rw [List.getElem?_map, List.getElem?_range hi, List.getElem?_map, List.getElem?_range hi]
    simp only [Option.map_some, List.length_map, List.length_range]
    unfold byteF
    rw [BitVec.ushiftRight_xor_distrib, BitVec.setWidth_xor, byte_shift x i j hi hj]
    by_cases h : j = i
    · subst h; simp [hj]
    · rw [if_neg h, if_neg (fun e => h e.symm), BitVec.xor_zero]
  · rw [List.getElem?_eq_none (by rw [bytes8_len]; omega), List.getElem?_eq_none (by rw [List.length_set, bytes8_len]; omega)]
theorem bytes_get (a : BitVec 64) (j : Nat) (hj : j < 8) : (bytes8 a)[j]? = some (byteF a j) := by
  unfold bytes8; rw [List.getElem?_map, List.getElem?_range hj]; rfl
theorem pair_first (a b : BitVec 64) (x : BitVec 8) (j : Nat) (hj : j < 8) : (dg (bytes8 (a ^^^ (x.setWidth 64 <<< (8 * j))) ++ bytes8 b) = dg (bytes8 a ++ bytes8 b)) ↔ x = 0#8 := by
  rw [bytes_set a x j hj, ← List.set_append_left _ _ (by rw [bytes8_len]; exact hj)]
  refine eq_comm.trans ((dg_set _ j (byteF a j) _ ?_).trans (xor_eq_self _ _))
  rw [List.getElem?_append_left (by rw [bytes8_len]; exact hj)]
  exact bytes_get a j hj
theorem pair_second (a b : BitVec 64) (x : BitVec 8) (j : Nat) (hj : j < 8) : (dg (bytes8 a ++ bytes8 (b ^^^ (x.setWidth 64 <<< (8 * j)))) = dg (bytes8 a ++ bytes8 b)) ↔ x = 0#8 := by
  have hs : bytes8 a ++ (bytes8 b).set j (byteF b j ^^^ x) = (bytes8 a ++ bytes8 b).set (8 + j) (byteF b j ^^^ x) := by
    rw [List.set_append_right _ _ (by rw [bytes8_len]; omega), bytes8_len, Nat.add_sub_cancel_left]
  rw [bytes_set b x j hj, hs]
  refine eq_comm.trans ((dg_set _ (8 + j) (byteF b j) _ ?_).trans (xor_eq_self _ _))
  rw [List.getElem?_append_right (by rw [bytes8_len]; omega), bytes8_len, Nat.add_sub_cancel_left]
  exact bytes_get b j hj
theorem pair_n (a b r : BitVec 64) (hr : dg (bytes8 a ++ bytes8 b) = r) (W : World) :
    Calls Try.prog 19 #[U64 a, U64 b] W fun e w' => e = .returned (U64 r) ∧ Below W.heap.size W w' := by subst hr; exact pair_any a b W

set_option maxRecDepth 100000 in
set_option maxHeartbeats 2000000 in
theorem walk (a b p x : Int) (w : World) (ha0 : 0 ≤ a) (ha1 : a ≤ 18446744073709551615) (hb0 : 0 ≤ b) (hb1 : b ≤ 18446744073709551615) (hp0 : 0 ≤ p) (hp1 : p ≤ 255) (hx0 : 0 ≤ x) (hx1 : x ≤ 255) :
    Calls Try.prog 8 #[.int .u64 a, .int .u64 b, .int .u8 p, .int .u8 x] w fun e w' => e = .returned (.bool true) ∧ Below w.heap.size w w' := by
  obtain ⟨a, rfl⟩ := int_bv (n := 64) ha0 (by omega)
  obtain ⟨b, rfl⟩ := int_bv (n := 64) hb0 (by omega)
  obtain ⟨x, rfl⟩ := int_bv (n := 8) hx0 (by omega)
  obtain ⟨i0, hi, hz0, hz1, hz2⟩ := info_parts infoB
  have HW : Hid (∀ W : World, _) := fun W => Aw.walk W
  have HA : Hid (∀ W : World, _) := fun W => bytes_any a W
  have HB : Hid (∀ W : World, _) := fun W => bytes_any b W
  have lb : (cellsB (bytes8 b)).length = 8 * 1 := by rw [cellsB_len, bytes8_len]
  have ob := cellsB_one (bytes8 b)
  have hc : Hid (cellsB (bytes8 a) ++ cellsB (bytes8 b) = cellsB (bytes8 a ++ bytes8 b)) := (cellsB_append _ _).symm
  have hNb : Hid (∀ (G : Option Addr) (W : World), isB G (bytes8 b) W → (8 ≠ 0 → ∃ ad, G = some ad ∧ ∀ j u, (cellsB (bytes8 b))[j]? = some u → W.cell? (ad.add j) = some u)) := fun G W h => by
    have := h.news; rwa [bytes8_len] at this
  have hib : Hid (∀ (G : Option Addr) (c base : Nat) (W : World), W.ownsRow base 5 1 (.slice G 8 c) 8 (cellsB (bytes8 b)) → isB G (bytes8 b) W) := fun _ _ _ _ h => isB_of_own h
  have hi2 : Hid (∀ (G : Option Addr) (c base : Nat) (W : World), W.ownsRow base 5 1 (.slice G (8 + 8) c) (8 + 8) (cellsB (bytes8 a ++ bytes8 b)) → isB G (bytes8 a ++ bytes8 b) W) := fun _ _ _ _ h => isB_of_own h
  obtain ⟨r, hr⟩ : ∃ r, dg (bytes8 a ++ bytes8 b) = r := ⟨_, rfl⟩
  have HO : Hid (∀ (G : Option Addr) (c : Nat) (W : World), isB G (bytes8 a ++ bytes8 b) W → Calls Try.prog 17 #[.slice G (8 + 8) c] W fun e w' => e = .returned (U64 r) ∧ Below W.heap.size W w') := fun G c W h =>
    of_n (8 + 8) (by rw [List.length_append, bytes8_len, bytes8_len]) r hr (by decide) W h
  have HP : Hid (∀ W : World, _) := fun W => pair_n a b r hr W
  obtain ⟨k, rfl⟩ : ∃ k : Nat, p = k := ⟨p.toNat, by omega⟩
  obtain ⟨y, hy⟩ : ∃ y, x.setWidth 64 <<< (8 * (k % 8)) = y := ⟨_, rfl⟩
  have hk8 : k % 8 < 8 := Nat.mod_lt _ (by decide)
  obtain ⟨r1, hr1⟩ : ∃ r, dg (bytes8 (a ^^^ y) ++ bytes8 b) = r := ⟨_, rfl⟩
  obtain ⟨r2, hr2⟩ : ∃ r, dg (bytes8 a ++ bytes8 (b ^^^ y)) = r := ⟨_, rfl⟩
  have HP1 : Hid (∀ W : World, _) := fun W => pair_n (a ^^^ y) b r1 hr1 W
  have HP2 : Hid (∀ W : World, _) := fun W => pair_n a (b ^^^ y) r2 hr2 W
  have q1 : ((r1.toNat : Int) == (r.toNat : Int)) = decide (x = 0#8) := by
    rw [beq_bv]; refine decide_eq_decide.2 ?_
    rw [← hr1, ← hr, ← hy]; exact pair_first a b x (k % 8) hk8
  have q2 : ((r2.toNat : Int) == (r.toNat : Int)) = decide (x = 0#8) := by
    rw [beq_bv]; refine decide_eq_decide.2 ?_
    rw [← hr2, ← hr, ← hy]; exact pair_second a b x (k % 8) hk8
  have q3 : ((x.toNat : Int) == 0) = decide (x = 0#8) := beq_bv x 0#8
  have x1 := xor64 a y
  have x2 := xor64 b y
  have hs := shl64 (x.setWidth 64) (8 * (k % 8)) (2 ^ (8 * (k % 8))) (by simp)
  rw [← wide x, hy] at hs
  generalize decide (x = 0#8) = q at q1 q2 q3
  obtain ⟨bq, hbq⟩ : ∃ bq, (bits .and .u8 (k : Int) 8 == 0) = bq := ⟨_, rfl⟩
  generalize bytes8 b = lb' at *
  generalize bytes8 a = la at *
  clear hr hr1 hr2 hy
  generalize a ^^^ y = ay at HP1 x1
  generalize b ^^^ y = by' at HP2 x2
  cases bq with
  | true =>
    go_enter Try.func8, Try.ntmps8
    go_wp2_with fail
    (with_reducible refine (HA.out _).mono ?_); rintro e w1 ⟨rfl, h1, hb1⟩
    go_wp2_with fail
    (with_reducible refine (HB.out _).mono ?_); rintro e w2 ⟨rfl, h2, hb2⟩
    replace h1 := own_below h1 hb2
    have hW := hb1.trans (hb2.mono hb1.size)
    have hB2 := hib.out _ _ _ _ h2
    have hn := hNb.out _ _ hB2
    generalize w1.heap.size = g1 at hn hB2 ⊢
    clear hb1 hb2 h2 hB2
    go_wp2_with (at_builtin; refine app_any _ rfl _ _ 22 rfl w.heap.size 5 i0 _ 1 1 Try.underlying22 hi hz0 hz1 hz2 rfl (by decide) (.slice (some ⟨w.heap.size, 0, none⟩) 8 8) 8 _ rfl h1 (some ⟨g1, 0, none⟩) 8 8 (cellsB lb') rfl lb hn ob (by unfold maxLen; omega) (by omega) hW.size ?_; intro v3 w3 hown3 hg3; have hB3 := hW.grown hg3 hW.size (fun k e => own_block_le h1 k e); rw [hc.out] at hown3; obtain ⟨g3, cg3, rfl⟩ := own_slice hown3; have hi3 := hi2.out _ _ _ _ hown3)
    clear h1 hW hown3 hg3 hn
    (with_reducible refine (HP.out _).mono ?_); rintro e w4 ⟨rfl, hb⟩
    have hR := hB3.trans (hb.mono hB3.size)
    replace hi3 := hi3.keep hb
    clear hb hB3
    go_wp2_with fail
    (with_reducible refine (HO.out _ _ _ hi3).mono ?_); rintro e w5 ⟨rfl, hb⟩
    replace hR := hR.trans (hb.mono hR.size)
    clear hb hi3
    go_wp2_with fail
    (with_reducible refine (HP1.out _).mono ?_); rintro e w6 ⟨rfl, hb⟩
    replace hR := hR.trans (hb.mono hR.size)
    clear hb
    go_wp2_with fail
    (with_reducible refine (HP.out _).mono ?_); rintro e w7 ⟨rfl, hb⟩
    replace hR := hR.trans (hb.mono hR.size)
    clear hb
    go_wp2_with fail
    (with_reducible refine (HW.out _).mono ?_); rintro e w8 ⟨rfl, hb⟩
    replace hR := hR.trans (hb.mono hR.size)
    clear hb
    go_wp2_with fail
    go_ret
    exact ⟨rfl, hR⟩
  | false =>
    go_enter Try.func8, Try.ntmps8
    go_wp2_with fail
    (with_reducible refine (HA.out _).mono ?_); rintro e w1 ⟨rfl, h1, hb1⟩
    go_wp2_with fail
    (with_reducible refine (HB.out _).mono ?_); rintro e w2 ⟨rfl, h2, hb2⟩
    replace h1 := own_below h1 hb2
    have hW := hb1.trans (hb2.mono hb1.size)
    have hB2 := hib.out _ _ _ _ h2
    have hn := hNb.out _ _ hB2
    generalize w1.heap.size = g1 at hn hB2 ⊢
    clear hb1 hb2 h2 hB2
    go_wp2_with (at_builtin; refine app_any _ rfl _ _ 22 rfl w.heap.size 5 i0 _ 1 1 Try.underlying22 hi hz0 hz1 hz2 rfl (by decide) (.slice (some ⟨w.heap.size, 0, none⟩) 8 8) 8 _ rfl h1 (some ⟨g1, 0, none⟩) 8 8 (cellsB lb') rfl lb hn ob (by unfold maxLen; omega) (by omega) hW.size ?_; intro v3 w3 hown3 hg3; have hB3 := hW.grown hg3 hW.size (fun k e => own_block_le h1 k e); rw [hc.out] at hown3; obtain ⟨g3, cg3, rfl⟩ := own_slice hown3; have hi3 := hi2.out _ _ _ _ hown3)
    clear h1 hW hown3 hg3 hn
    (with_reducible refine (HP.out _).mono ?_); rintro e w4 ⟨rfl, hb⟩
    have hR := hB3.trans (hb.mono hB3.size)
    replace hi3 := hi3.keep hb
    clear hb hB3
    go_wp2_with fail
    (with_reducible refine (HO.out _ _ _ hi3).mono ?_); rintro e w5 ⟨rfl, hb⟩
    replace hR := hR.trans (hb.mono hR.size)
    clear hb hi3
    go_wp2_with fail
    (with_reducible refine (HP2.out _).mono ?_); rintro e w6 ⟨rfl, hb⟩
    replace hR := hR.trans (hb.mono hR.size)
    clear hb
    go_wp2_with fail
    (with_reducible refine (HP.out _).mono ?_); rintro e w7 ⟨rfl, hb⟩
    replace hR := hR.trans (hb.mono hR.size)
    clear hb
    go_wp2_with fail
    (with_reducible refine (HW.out _).mono ?_); rintro e w8 ⟨rfl, hb⟩
    replace hR := hR.trans (hb.mono hR.size)
    clear hb
    go_wp2_with fail
    go_ret
    exact ⟨rfl, hR⟩
end DPair
end Go.Proofs.Ytdoliblcilhneaa
