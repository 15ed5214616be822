/- The contracts of Bytes and Pair. -/
import Derived.Test.YtaoipbndmfjmhaaApp
namespace Go.Proofs.Ytaoipbndmfjmhaa
open Go.RowKit Go.Joins

/-- A row of n bytes, those below k set. -/
def parB (n : Nat) (f : Nat → BitVec 8) (k : Nat) : Array Value := ((List.range n).map fun i => if i < k then U8 (f i) else .int .u8 0).toArray
theorem parB_size (n : Nat) (f : Nat → BitVec 8) (k : Nat) : (parB n f k).size = n := by simp [parB]
theorem parB_get (n : Nat) (f : Nat → BitVec 8) (k i : Nat) (h : i < n) : (parB n f k)[i]? = some (if i < k then U8 (f i) else .int .u8 0) := by
  simp [parB, h]
theorem parB_set (n : Nat) (f : Nat → BitVec 8) (k : Nat) (h : k < n) : (parB n f k).setIfInBounds k (U8 (f k)) = parB n f (k + 1) := by
  apply Array.ext_getElem?
  intro i
  rw [Array.getElem?_setIfInBounds]
  by_cases hi : i < n
  · rw [parB_get n f k i hi, parB_get n f (k + 1) i hi, parB_size]
    by_cases e : k = i
    · subst e; simp [h]
    · rw [if_neg e]
      by_cases h1 : i < k
      · rw [if_pos h1, if_pos (by omega)]
      · rw [if_neg h1, if_neg (by omega)]
  · rw [if_neg (by omega), Array.getElem?_eq_none (by rw [parB_size]; omega), Array.getElem?_eq_none (by rw [parB_size]; omega)]
theorem parB_zero (n : Nat) (f : Nat → BitVec 8) : parB n f 0 = (List.replicate n (Value.int .u8 0)).toArray := by
  unfold parB
  congr 1
  apply List.ext_getElem?
  intro i
  by_cases hi : i < n
  · simp [hi]
  · simp [hi]
theorem parB_full (n : Nat) (f : Nat → BitVec 8) : (parB n f n).toList = cellsB ((List.range n).map f) := by
  unfold parB cellsB
  rw [List.map_map]
  apply List.map_congr_left
  intro i hi
  rw [if_pos (List.mem_range.1 hi)]; rfl

/-- Byte i of a number. -/
def byteF (d : BitVec 64) (i : Nat) : BitVec 8 := (d >>> (8 * i)).setWidth 8
def bytes8 (d : BitVec 64) : List (BitVec 8) := (List.range 8).map (byteF d)
theorem bytes8_len (d : BitVec 64) : (bytes8 d).length = 8 := by simp [bytes8]
theorem low8 (x : BitVec 64) : (x.toNat : Int) % 256 = ((x.setWidth 8).toNat : Int) := by rw [BitVec.toNat_setWidth]; omega

theorem make8 (w : World) : (Instr.makeSlice 42 (.int .i64 8) (.int .i64 8)).run Try.prog w = .ok (.slice (some ⟨w.heap.size, 0, none⟩) 8 8) (w.alloc (.cells (List.replicate 8 (Value.int .u8 0)).toArray 5)) := by
  obtain ⟨i0, hi, hz0, hz1, hz2⟩ := info_parts infoB
  have h := run_makeSlice (P := Try.prog) w 42 5 i0 _ Try.underlying42 hi hz0 .i64 .i64 8 8 (by decide) (by decide) (by rw [hz1]; decide) (by rw [hz2]; decide) (by decide)
  rw [hz1] at h
  rw [h]
  have e : madeCells (Value.int .u8 0).cells (Int.toNat 8 * 1) = (List.replicate 8 (Value.int .u8 0)).toArray := by kernel_rfl
  rw [e]; rfl

set_option maxRecDepth 100000 in
set_option maxHeartbeats 1000000 in
theorem bytes_any (d : BitVec 64) (w : World) :
    Calls Try.prog 34 #[U64 d] w fun e w' => e = .returned (.slice (some ⟨w.heap.size, 0, none⟩) 8 8) ∧ w'.ownsRow w.heap.size 5 1 (.slice (some ⟨w.heap.size, 0, none⟩) 8 8) 8 (cellsB (bytes8 d)) ∧ Below w.heap.size w w' := by
  have hmk := make8 w
  rw [← parB_zero 8 (byteF d)] at hmk
  have b0 : BoxN (w.alloc (.cells (parB 8 (byteF d) 0) 5)) w.heap.size 5 (parB 8 (byteF d) 0) := BoxN.new w _ _
  have hB : Below w.heap.size w (w.alloc (.cells (parB 8 (byteF d) 0) 5)) := (Below.refl _ w).alloc (Nat.le_refl _) _
  go_enter Try.func34, Try.ntmps34
  go_wp2_with fail
  clear hmk
  generalize w.alloc (.cells (parB 8 (byteF d) 0) 5) = W at b0 hB ⊢
  obtain ⟨g, hg⟩ : ∃ g, w.heap.size = g := ⟨_, rfl⟩
  rw [hg] at b0 hB ⊢
  have HG := Lib.hid hg
  clear hg
  go_loopw [0, 8] (fun r i wr => ∃ k : Nat, k ≤ 8 ∧ i = .int .i64 k ∧ r = U64 (d >>> (8 * k)) ∧ BoxN wr g 5 (parB 8 (byteF d) k) ∧ Below g w wr)
    (fun _ i _ => 8 - (intOf i).toNat)
  case atStart => exact ⟨0, by omega, rfl, by simp, b0, hB⟩
  case round =>
    clear b0 hB
    obtain ⟨k, hk, rfl, rfl, b0, hB⟩ := hrel
    by_cases hlt : k < 8
    · have hd : decide ((k : Int) < 8) = true := by simp; omega
      have c0 := b0.cell k
      have f0 := b0.frozen k
      have hbl := b0.lt
      rw [parB_get 8 _ k k hlt, if_neg (Nat.lt_irrefl k)] at c0
      have hs : Hid ((parB 8 (byteF d) k).setIfInBounds k (U8 (byteF d k)) = parB 8 (byteF d) (k + 1)) := parB_set 8 _ k hlt
      have hn : Hid (d >>> (8 * (k + 1)) = d >>> (8 * k) >>> 8) := by unfold Hid; rw [← BitVec.shiftRight_add]; rfl
      have hy : Hid (byteF d k = (d >>> (8 * k)).setWidth 8) := rfl
      generalize d >>> (8 * k) = x at hn hy ⊢
      have e1 := low8 x
      have e2 := shr64 x 8 256 (by decide)
      generalize x.setWidth 8 = y at e1 hy
      generalize x >>> 8 = x' at e2 hn
      have hb2 := Lib.hid (b0.set1 k (U8 y))
      have hB2 := Lib.hid (hB.setCell (p := ⟨g, k, none⟩) (Nat.le_refl _) (U8 y))
      clear b0 hB
      go_wp2_with fail
      go_roundw
      case rel => exact ⟨k + 1, by omega, by go_num, by rw [hn.out], by rw [← hs.out, hy.out]; exact hb2.out, hB2.out⟩
      case measure => simp [intOf]; omega
    · obtain rfl : k = 8 := by omega
      have ho : Hid (wr.ownsRow g 5 1 (.slice (some ⟨g, 0, none⟩) 8 8) 8 (cellsB (bytes8 d))) := by
        unfold Hid bytes8
        rw [← parB_full]
        exact ⟨by simp [parB], .inr ⟨g, 8, parB 8 (byteF d) 8, rfl, Nat.le_refl _, b0, Nat.le_refl _, by unfold maxLen; omega, by rw [parB_size], List.take_of_length_le (by simp [parB])⟩⟩
      generalize d >>> (8 * 8) = x
      clear b0
      go_wp2_with fail
      go_ret
      exact ⟨by rw [HG.out]; rfl, by rw [HG.out]; exact ho.out, by rw [HG.out]; exact hB⟩

set_option maxRecDepth 100000 in
set_option maxHeartbeats 1000000 in
theorem pair_any (a b : BitVec 64) (w : World) :
    Calls Try.prog 50 #[U64 a, U64 b] w fun e w' => e = .returned (U64 (dg (bytes8 a ++ bytes8 b))) ∧ Below w.heap.size w w' := by
  obtain ⟨i0, hi, hz0, hz1, hz2⟩ := info_parts infoB
  have HA : Hid (∀ W : World, _) := fun W => bytes_any a W
  have HB : Hid (∀ W : World, _) := fun W => bytes_any b W
  have HO : Hid (∀ (G : Option Addr) (c : Nat) (W : World), isB G (bytes8 a ++ bytes8 b) W → Calls Try.prog 33 #[.slice G (8 + 8) c] W fun e w' => e = .returned (U64 (dg (bytes8 a ++ bytes8 b))) ∧ Below W.heap.size W w') := fun G c W h => by
    have hl : (bytes8 a ++ bytes8 b).length = 8 + 8 := by rw [List.length_append, bytes8_len, bytes8_len]
    have := of_any G c (bytes8 a ++ bytes8 b) (by rw [hl]; decide) W h
    rwa [hl] at this
  have lb : (cellsB (bytes8 b)).length = 8 * 1 := by rw [cellsB_len, bytes8_len]
  have ob := cellsB_one (bytes8 b)
  have hc : Hid (cellsB (bytes8 a) ++ cellsB (bytes8 b) = cellsB (bytes8 a ++ bytes8 b)) := (cellsB_append _ _).symm
  have hNb : Hid (∀ (G : Option Addr) (W : World), isB G (bytes8 b) W → (8 ≠ 0 → ∃ ad, G = some ad ∧ ∀ j u, (cellsB (bytes8 b))[j]? = some u → W.cell? (ad.add j) = some u)) := fun G W h => by
    have := h.news; rwa [bytes8_len] at this
  have hib : Hid (∀ (G : Option Addr) (c base : Nat) (W : World), W.ownsRow base 5 1 (.slice G 8 c) 8 (cellsB (bytes8 b)) → isB G (bytes8 b) W) := fun _ _ _ _ h => isB_of_own h
  have hi2 : Hid (∀ (G : Option Addr) (c base : Nat) (W : World), W.ownsRow base 5 1 (.slice G (8 + 8) c) (8 + 8) (cellsB (bytes8 a ++ bytes8 b)) → isB G (bytes8 a ++ bytes8 b) W) := fun _ _ _ _ h => isB_of_own h
  obtain ⟨r, hr⟩ : ∃ r, dg (bytes8 a ++ bytes8 b) = r := ⟨_, rfl⟩
  rw [hr] at HO
  have HR := Lib.hid hr
  clear hr
  generalize bytes8 b = lb' at *
  generalize bytes8 a = la at *
  go_enter Try.func50, Try.ntmps50
  go_wp2_with fail
  (with_reducible refine (HA.out _).mono ?_); rintro e w1 ⟨rfl, h1, hb1⟩
  go_wp2_with fail
  (with_reducible refine (HB.out _).mono ?_); rintro e w2 ⟨rfl, h2, hb2⟩
  replace h1 := own_below h1 hb2
  have hW := hb1.trans (hb2.mono hb1.size)
  have hB2 := hib.out _ _ _ _ h2
  have hn := hNb.out _ _ hB2
  generalize w1.heap.size = g1 at hn hB2 ⊢
  clear hb1 hb2 h2 hB2
  go_wp2_with (at_builtin; refine app_any _ rfl _ _ 42 rfl w.heap.size 5 i0 _ 1 1 Try.underlying42 hi hz0 hz1 hz2 rfl (by decide) (.slice (some ⟨w.heap.size, 0, none⟩) 8 8) 8 _ rfl h1 (some ⟨g1, 0, none⟩) 8 8 (cellsB lb') rfl lb hn ob (by unfold maxLen; omega) (by omega) hW.size ?_; intro v3 w3 hown3 hg3; have hB3 := hW.grown hg3 hW.size (fun k e => own_block_le h1 k e); rw [hc.out] at hown3; obtain ⟨g3, cg3, rfl⟩ := own_slice hown3; have hi3 := hi2.out _ _ _ _ hown3)
  clear h1 hW hown3 hg3 hn
  (with_reducible refine (HO.out _ _ _ hi3).mono ?_); rintro e w4 ⟨rfl, hb4⟩
  have hB4 := hB3.trans (hb4.mono hB3.size)
  go_wp2_with fail
  go_ret
  exact ⟨by rw [HR.out]; rfl, hB4⟩
end Go.Proofs.Ytaoipbndmfjmhaa
