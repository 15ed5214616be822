/- The contracts of the reference's functions on numbers and bytes. -/
import Derived.Test.YtaoipbndmfjmhaaShare
namespace Go.Proofs.Ytaoipbndmfjmhaa
open Go.RowKit Go.Joins

def dbl : Nat → BitVec 64 → BitVec 64
  | 0, s => s
  | k + 1, s => dbl k s + dbl k s
theorem dbl_shl : ∀ (k : Nat) (s : BitVec 64), dbl k s = s <<< k
  | 0, s => by simp [dbl]
  | k + 1, s => by
    rw [dbl, dbl_shl k s, BitVec.shiftLeft_add s k 1, shl_mul (s <<< k) 1]
    rw [show BitVec.twoPow 64 1 = 2#64 by decide]
    grind
theorem half (x : BitVec 64) : (x.toNat : Int) / (2 : Int) = ((x >>> 1).toNat : Int) := by
  have h := shr64 x 1 (2 : Int) (by decide)
  exact h

set_option maxHeartbeats 1000000 in
theorem left_any (s : BitVec 64) (k : Nat) (hk : k ≤ 64) (w : World) :
    Calls Try.prog 64 #[U64 s, .int .i64 k] w fun e w' => e = .returned (U64 (s <<< k)) ∧ w' = w := by
  have HD : Hid (s <<< k = dbl k s) := (dbl_shl k s).symm
  go_enter Try.func64, Try.ntmps64
  go_wp2_with fail
  go_loop [0, 5] (fun r i => ∃ j : Nat, j ≤ k ∧ i = .int .i64 j ∧ r = U64 (dbl j s))
    (fun _ i => k - (intOf i).toNat)
  case atStart => exact ⟨0, Nat.zero_le _, rfl, rfl⟩
  case round =>
    obtain ⟨j, hj, rfl, rfl⟩ := hrel
    by_cases hlt : j < k
    · have hd : decide ((j : Int) < k) = true := by simp; omega
      have hs : Hid (dbl (j + 1) s = dbl j s + dbl j s) := rfl
      have h2 := add64 (dbl j s) (dbl j s)
      rw [← hs.out] at h2
      obtain ⟨y, hy⟩ : ∃ y, dbl (j + 1) s = y := ⟨_, rfl⟩
      rw [hy] at h2 hs
      have HY := Lib.hid hy
      clear hy
      generalize dbl j s = x at h2 hs ⊢
      go_wp2_with fail
      go_round
      case rel => exact ⟨j + 1, by omega, by go_num, by rw [HY.out]⟩
      case measure => simp [intOf]; omega
    · obtain rfl : j = k := by omega
      have hd : decide ((j : Int) < j) = false := by simp
      go_wp2_with fail
      go_ret
      exact ⟨by rw [HD.out]; rfl, rfl⟩

set_option maxHeartbeats 1000000 in
theorem right_any (s : BitVec 64) (k : Nat) (hk : k ≤ 64) (w : World) :
    Calls Try.prog 65 #[U64 s, .int .i64 k] w fun e w' => e = .returned (U64 (s >>> k)) ∧ w' = w := by
  go_enter Try.func65, Try.ntmps65
  go_wp2_with fail
  go_loop [0, 5] (fun r i => ∃ j : Nat, j ≤ k ∧ i = .int .i64 j ∧ r = U64 (s >>> j))
    (fun _ i => k - (intOf i).toNat)
  case atStart => exact ⟨0, Nat.zero_le _, rfl, by simp⟩
  case round =>
    obtain ⟨j, hj, rfl, rfl⟩ := hrel
    by_cases hlt : j < k
    · have hd : decide ((j : Int) < k) = true := by simp; omega
      have hs : Hid (s >>> (j + 1) = (s >>> j) >>> 1) := BitVec.shiftRight_add s j 1
      generalize s >>> j = x at hs ⊢
      have h2 := half x
      generalize x >>> 1 = y at h2 hs
      go_wp2_with fail
      go_round
      case rel => exact ⟨j + 1, by omega, by go_num, by rw [hs.out]⟩
      case measure => simp [intOf]; omega
    · obtain rfl : j = k := by omega
      have hd : decide ((j : Int) < j) = false := by simp
      go_wp2_with fail
      go_ret
      exact ⟨rfl, rfl⟩

theorem rot_add (y : BitVec 64) : y <<< 20 + y >>> 44 = rotB y := by
  unfold rotB
  apply BitVec.add_eq_or_of_and_eq_zero
  apply BitVec.eq_of_getLsbD_eq
  intro i hi
  simp only [BitVec.getLsbD_and, BitVec.getLsbD_shiftLeft, BitVec.getLsbD_ushiftRight, BitVec.getLsbD_zero]
  by_cases h : i < 20
  · simp [h]
  · rw [BitVec.getLsbD_of_ge y (44 + i) (by omega)]; simp
theorem left_n (s r : BitVec 64) (k : Int) (n : Nat) (hk : k = n) (hn : n ≤ 64) (hr : s <<< n = r) (w : World) :
    Calls Try.prog 64 #[U64 s, .int .i64 k] w fun e w' => e = .returned (U64 r) ∧ w' = w := by subst hk hr; exact left_any s n hn w
theorem right_n (s r : BitVec 64) (k : Int) (n : Nat) (hk : k = n) (hn : n ≤ 64) (hr : s >>> n = r) (w : World) :
    Calls Try.prog 65 #[U64 s, .int .i64 k] w fun e w' => e = .returned (U64 r) ∧ w' = w := by subst hk hr; exact right_any s n hn w

set_option maxHeartbeats 1000000 in
theorem rbyte_any (s : BitVec 64) (v : BitVec 8) (w : World) :
    Calls Try.prog 66 #[U64 s, U8 v] w fun e w' => e = .returned (U64 (addB s v)) ∧ w' = w := by
  have h1 : bits .xor .u64 (s.toNat : Int) (v.toNat : Int) = ((mixB s v).toNat : Int) := by rw [wide, xor64]; rfl
  have HF : Hid (addB s v = rotB (mulB (mixB s v))) := rfl
  generalize mixB s v = x at h1 HF
  have H1 : Hid (∀ W : World, _) := fun W => left_n x (x <<< 28) 28 28 rfl (by decide) rfl W
  have h2 : IntKind.u64.wrap ((x.toNat : Int) + ((x <<< 28).toNat : Int)) = ((mulB x).toNat : Int) := by rw [add64]; rfl
  generalize x <<< 28 = x1 at H1 h2
  generalize mulB x = y at h2 HF
  have H2 : Hid (∀ W : World, _) := fun W => left_n y (y <<< 20) 20 20 rfl (by decide) rfl W
  have H3 : Hid (∀ W : World, _) := fun W => right_n y (y >>> 44) 44 44 rfl (by decide) rfl W
  have h3 : IntKind.u64.wrap (((y <<< 20).toNat : Int) + ((y >>> 44).toNat : Int)) = ((rotB y).toNat : Int) := by rw [add64, rot_add]
  generalize y <<< 20 = y1 at H2 h3
  generalize y >>> 44 = y2 at H3 h3
  generalize rotB y = z at h3 HF
  go_enter Try.func66, Try.ntmps66
  go_wp2_with fail
  (with_reducible refine (H1.out _).mono ?_); rintro e w' ⟨rfl, rfl⟩
  go_wp2_with fail
  (with_reducible refine (H2.out _).mono ?_); rintro e w' ⟨rfl, rfl⟩
  go_wp2_with fail
  (with_reducible refine (H3.out _).mono ?_); rintro e w' ⟨rfl, rfl⟩
  go_wp2_with fail
  go_ret
  exact ⟨by rw [HF.out]; rfl, rfl⟩

set_option maxRecDepth 100000 in
set_option maxHeartbeats 1000000 in
theorem radd_any (A : Option Addr) (cap : Nat) (l : List (BitVec 8)) (hlen : l.length ≤ 4611686018427387904) (s : BitVec 64) (w : World) (hl : isB A l w) :
    Calls Try.prog 58 #[U64 s, .slice A l.length cap] w fun e w' => e = .returned (U64 (ad s l)) ∧ w' = w := by
  have HB : Hid (∀ (s : BitVec 64) (v : BitVec 8) (W : World), _) := rbyte_any
  have HL := Lib.hid hl
  clear hl
  go_enter Try.func58, Try.ntmps58
  go_wp2_with fail
  go_loop [0, 5] (fun r i => ∃ k : Nat, k ≤ l.length ∧ i = .int .i64 k ∧ r = U64 (ad s (l.take k)))
    (fun _ i => l.length - (intOf i).toNat)
  case atStart => exact ⟨0, Nat.zero_le _, rfl, by simp [ad]⟩
  case round =>
    obtain ⟨k, hk, rfl, rfl⟩ := hrel
    by_cases hlt : k < l.length
    · have hgk : l[k]? = some l[k] := List.getElem?_eq_getElem hlt
      obtain ⟨z, hz⟩ : ∃ z, l[k] = z := ⟨_, rfl⟩
      rw [hz] at hgk
      have hts : Hid (ad s (l.take (k + 1)) = addB (ad s (l.take k)) z) := by unfold Hid; rw [take_snoc' hgk, ad_snoc]
      obtain ⟨b, off, rfl, hbl, hr⟩ := HL.out (by intro h; rw [h] at hlt; simp at hlt)
      have hc := hr k z hgk
      have HN := Lib.hid (HB.out (ad s (l.take k)) z w)
      clear hgk hz hr HL HB
      generalize ad s (l.take k) = r at hts HN ⊢
      go_wp2_with fail
      (with_reducible refine HN.out.mono ?_); rintro e w' ⟨rfl, rfl⟩
      go_wp2_with fail
      go_round
      case rel => exact ⟨k + 1, by omega, by go_num, by rw [hts.out]⟩
      case measure => simp [intOf]; omega
    · obtain rfl : k = l.length := by omega
      have hT : Hid (ad s (l.take l.length) = ad s l) := by unfold Hid; rw [List.take_length]
      generalize ad s (l.take l.length) = r at hT ⊢
      go_wp2_with fail
      go_ret
      exact ⟨by rw [← hT.out]; rfl, rfl⟩

set_option maxHeartbeats 1000000 in
theorem rfin_any (s n : BitVec 64) (w : World) :
    Calls Try.prog 57 #[U64 s, I64 n] w fun e w' => e = .returned (U64 (fin s n)) ∧ w' = w := by
  have h0 := i64_u64 n
  have h1 := xor64 s n
  have HF : Hid (fin s n = finX (finS (finX (finS (s ^^^ n))))) := rfl
  generalize s ^^^ n = a at h1 HF
  have H1 : Hid (∀ W : World, _) := fun W => left_n a (a <<< 36) 36 36 rfl (by decide) rfl W
  have h2 : IntKind.u64.wrap ((a.toNat : Int) + ((a <<< 36).toNat : Int)) = ((finS a).toNat : Int) := by rw [add64]; rfl
  generalize a <<< 36 = a1 at H1 h2
  generalize finS a = b at h2 HF
  have H2 : Hid (∀ W : World, _) := fun W => right_n b (b >>> 28) 28 28 rfl (by decide) rfl W
  have h3 : bits .xor .u64 (b.toNat : Int) ((b >>> 28).toNat : Int) = ((finX b).toNat : Int) := by rw [xor64]; rfl
  generalize b >>> 28 = b1 at H2 h3
  generalize finX b = c at h3 HF
  have H3 : Hid (∀ W : World, _) := fun W => left_n c (c <<< 36) 36 36 rfl (by decide) rfl W
  have h4 : IntKind.u64.wrap ((c.toNat : Int) + ((c <<< 36).toNat : Int)) = ((finS c).toNat : Int) := by rw [add64]; rfl
  generalize c <<< 36 = c1 at H3 h4
  generalize finS c = d at h4 HF
  have H4 : Hid (∀ W : World, _) := fun W => right_n d (d >>> 28) 28 28 rfl (by decide) rfl W
  have h5 : bits .xor .u64 (d.toNat : Int) ((d >>> 28).toNat : Int) = ((finX d).toNat : Int) := by rw [xor64]; rfl
  generalize d >>> 28 = d1 at H4 h5
  generalize finX d = z at h5 HF
  go_enter Try.func57, Try.ntmps57
  go_wp2_with fail
  (with_reducible refine (H1.out _).mono ?_); rintro e w' ⟨rfl, rfl⟩
  go_wp2_with fail
  (with_reducible refine (H2.out _).mono ?_); rintro e w' ⟨rfl, rfl⟩
  go_wp2_with fail
  (with_reducible refine (H3.out _).mono ?_); rintro e w' ⟨rfl, rfl⟩
  go_wp2_with fail
  (with_reducible refine (H4.out _).mono ?_); rintro e w' ⟨rfl, rfl⟩
  go_wp2_with fail
  go_ret
  exact ⟨by rw [HF.out]; rfl, rfl⟩
end Go.Proofs.Ytaoipbndmfjmhaa
