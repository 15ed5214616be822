/- The contracts of the reference's Of, Bytes, Pair, Text. -/
import Derived.Test.YtaoipbndmfjmhaaRfA
namespace Go.Proofs.Ytaoipbndmfjmhaa
open Go.RowKit Go.Joins

theorem len_int (n : Nat) (h : n ≤ 1048576) : (BitVec.ofNat 64 n).toInt = n := by
  rw [BitVec.toInt_eq_toNat_cond, BitVec.toNat_ofNat, Nat.mod_eq_of_lt (by omega)]
  rw [if_pos (by omega)]

set_option maxRecDepth 100000 in
theorem rof_n {A : Option Addr} {cap : Nat} {l : List (BitVec 8)} (n : Nat) (hn : l.length = n) (s : BitVec 64) (hs : dg l = s) (hlen : n ≤ 1048576) (w : World) (hl : isB A l w) :
    Calls Try.prog 35 #[.slice A n cap] w fun e w' => e = .returned (U64 s) ∧ w' = w := by
  have HA : Hid (∀ W, isB A l W → Calls Try.prog 58 #[.int .u64 7953747704174896417, .slice A n cap] W fun e w' => e = .returned (U64 (ad start l)) ∧ w' = W) := fun W h => by
    have := radd_any A cap l (by omega) start W h
    rw [hn] at this; exact this
  have HF : Hid (∀ W : World, Calls Try.prog 57 #[U64 (ad start l), .int .i64 n] W fun e w' => e = .returned (U64 s) ∧ w' = W) := fun W => by
    have := rfin_any (ad start l) (BitVec.ofNat 64 l.length) W
    rw [I64, len_int _ (by omega), hn] at this
    rw [← hs]
    unfold dg
    rw [hn]; exact this
  generalize ad start l = r at HA HF
  have HL := Lib.hid hl
  clear hl hn hs
  go_enter Try.func35, Try.ntmps35
  go_wp2_with fail
  (with_reducible refine (HA.out _ HL.out).mono ?_); rintro e w' ⟨rfl, rfl⟩
  go_wp2_with fail
  (with_reducible refine (HF.out _).mono ?_); rintro e w' ⟨rfl, rfl⟩
  go_wp2_with fail
  go_ret
  exact ⟨rfl, rfl⟩

theorem byte_rem (x : BitVec 64) : (x.toNat : Int) % 256 = ((x.setWidth 8).toNat : Int) := low8 x

set_option maxRecDepth 100000 in
set_option maxHeartbeats 1000000 in
theorem rbytes_any (d : BitVec 64) (w : World) :
    Calls Try.prog 36 #[U64 d] w fun e w' => ∃ G c, e = .returned (.slice G 8 c) ∧ w'.ownsRow w.heap.size 5 1 (.slice G 8 c) 8 (cellsB (bytes8 d)) ∧ Below w.heap.size w w' := by
  have hcl : Hid (cellsB [] = []) := rfl
  have ho0 : w.ownsRow w.heap.size 5 1 (.slice none 0 0) 0 (cellsB []) := ⟨rfl, .inl ⟨rfl, rfl⟩⟩
  have Ho0 := Lib.hid ho0
  clear ho0
  go_enter Try.func36, Try.ntmps36
  go_wp2_with fail
  go_loopw [0, 3, 4] (fun r v i wr => ∃ (k : Nat) (G : Option Addr) (c : Nat), k ≤ 8 ∧ i = .int .i64 k ∧ r = U64 (d >>> (8 * k)) ∧ v = .slice G k c ∧ wr.ownsRow w.heap.size 5 1 (.slice G k c) k (cellsB ((bytes8 d).take k)) ∧ Below w.heap.size w wr)
    (fun _ _ i _ => 8 - (intOf i).toNat)
  case atStart => exact ⟨0, none, 0, by omega, rfl, by simp, rfl, Ho0.out, Below.refl _ _⟩
  case round =>
    obtain ⟨k, G, c, hk, rfl, rfl, rfl, hown, hB⟩ := hrel
    by_cases hlt : k < 8
    · have hd : decide ((k : Int) < 8) = true := by simp; omega
      have hts : Hid ((bytes8 d).take (k + 1) = (bytes8 d).take k ++ [byteF d k]) := by
        unfold Hid
        exact take_snoc' (by unfold bytes8; rw [List.getElem?_map, List.getElem?_range hlt]; rfl)
      have hn : Hid (d >>> (8 * (k + 1)) = d >>> (8 * k) >>> 8) := by unfold Hid; rw [← BitVec.shiftRight_add]; rfl
      have hy : Hid (byteF d k = (d >>> (8 * k)).setWidth 8) := rfl
      generalize d >>> (8 * k) = x at hn hy ⊢
      have e1 := low8 x
      have e2 := shr64 x 8 256 (by decide)
      generalize x.setWidth 8 = y at e1 hy
      generalize x >>> 8 = x' at e2 hn
      have hyl := y.isLt
      have hi1 := isB_lit wr [y] #[U8 y] rfl
      have hown1 := hown.alloc (.cells #[U8 y] 5)
      have hB1 := hB.alloc hB.size (.cells #[U8 y] 5)
      have hz1 := hB1.size
      have e3 : ((x.toNat : Int) % 256) % 256 = ((y.toNat : Int)) := by rw [e1]; omega
      clear hown hB
      go_wp2_with (at_builtin; refine app_arm _ rfl (.tmp 9) (.tmp 13) rfl w.heap.size G k c ((bytes8 d).take k) rfl hown1 (some ⟨wr.heap.size, 0, none⟩) 1 1 [y] rfl rfl hi1 (k + 1) rfl (by omega) hz1 ?_; intro G2 c2 w2 hown2 hb2; have hB2 := hB1.trans hb2)
      go_roundw
      case rel => exact ⟨k + 1, G2, c2, by omega, by go_num, by rw [hn.out], rfl, by rw [hts.out, hy.out]; exact hown2, hB2⟩
      case measure => simp [intOf]; omega
    · obtain rfl : k = 8 := by omega
      rw [List.take_of_length_le (by rw [bytes8_len]; omega)] at hown
      have HO := Lib.hid hown
      generalize d >>> (8 * 8) = x
      clear hown
      go_wp2_with fail
      go_ret
      exact ⟨G, c, rfl, HO.out, hB⟩

set_option maxRecDepth 100000 in
set_option maxHeartbeats 1000000 in
theorem rpair_n (a b r : BitVec 64) (hr : dg (bytes8 a ++ bytes8 b) = r) (w : World) :
    Calls Try.prog 46 #[U64 a, U64 b] w fun e w' => e = .returned (U64 r) ∧ Below w.heap.size w w' := by
  have HA : Hid (∀ W : World, _) := rbytes_any a
  have HB : Hid (∀ W : World, _) := rbytes_any b
  have HO : Hid (∀ (G : Option Addr) (c : Nat) (W : World), isB G (bytes8 a ++ bytes8 b) W → _) := fun G c W h => rof_n (cap := c) 16 (by rw [List.length_append, bytes8_len, bytes8_len]) r hr (by decide) W h
  have IB : Hid (∀ (G : Option Addr) (g k base : Nat) (l : List (BitVec 8)) (W : World), W.ownsRow base 5 1 (.slice G k g) k (cellsB l) → isB G l W) := fun _ _ _ _ _ _ h => isB_of_own h
  have hbl := Lib.hid (bytes8_len b)
  clear hr
  generalize bytes8 b = lb at *
  generalize bytes8 a = la at *
  go_enter Try.func46, Try.ntmps46
  go_wp2_with fail
  (with_reducible refine (HA.out _).mono ?_); rintro e w1 ⟨G1, c1, rfl, h1, hb1⟩
  go_wp2_with fail
  (with_reducible refine (HB.out _).mono ?_); rintro e w2 ⟨G2, c2, rfl, h2, hb2⟩
  replace h1 := own_below h1 hb2
  have hW := hb1.trans (hb2.mono hb1.size)
  have hi2 := IB.out _ _ _ _ _ _ h2
  clear hb1 hb2 h2
  go_wp2_with (at_builtin; refine app_arm _ rfl _ _ rfl w.heap.size G1 8 c1 la rfl h1 G2 8 c2 lb rfl hbl.out hi2 16 rfl (by omega) hW.size ?_; intro G3 c3 w3 h3 hb3; have hB3 := hW.trans hb3; have hi3 := IB.out _ _ _ _ _ _ h3)
  clear h1 h3 hi2 hW hb3
  (with_reducible refine (HO.out _ _ _ hi3).mono ?_); rintro e w4 ⟨rfl, rfl⟩
  go_wp2_with fail
  go_ret
  exact ⟨rfl, hB3⟩
end Go.Proofs.Ytaoipbndmfjmhaa
