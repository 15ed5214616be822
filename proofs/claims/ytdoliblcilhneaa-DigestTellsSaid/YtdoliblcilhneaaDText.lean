/- DigestText returns true. -/
import Derived.Test.YtdoliblcilhneaaTextM
namespace Go.Proofs.Ytdoliblcilhneaa
open Go.RowKit Go.Joins

theorem str_bstr (s : ByteArray) : ∃ l, s = bstr l := by
  refine ⟨s.data.toList.map UInt8.toBitVec, ?_⟩
  unfold bstr
  rw [List.map_map]
  have h : s.data.toList.map ((fun b => UInt8.ofBitVec b) ∘ UInt8.toBitVec) = s.data.toList := by
    conv => rhs; rw [← List.map_id s.data.toList]
    apply List.map_congr_left
    intro x _; rfl
  rw [h]
theorem bstr_extract (l : List (BitVec 8)) (i j : Nat) : (bstr l).extract i j = bstr ((l.drop i).take (j - i)) := by
  apply ByteArray.ext
  rw [ByteArray.data_extract]
  unfold bstr
  apply Array.ext'
  simp [List.extract, List.map_drop, List.map_take]
theorem text_n (d : BitVec 64) (S : ByteArray) (hS : bstr (txt d) = S) (W : World) :
    Calls Try.prog 21 #[U64 d] W fun e w' => e = .returned (.string S) ∧ Below W.heap.size W w' := by subst hS; exact text_any d W
theorem parse_n (l : List (BitVec 8)) (S : ByteArray) (hS : bstr l = S) (x : BitVec 64) (k : Int) (hp : prs l = (x, k)) (W : World) :
    Calls Try.prog 12 #[.string S] W fun e w' => e = .returned (.tuple #[U64 x, .int .i64 k]) ∧ Below W.heap.size W w' := by
  subst hS
  have h := parse_any l W
  unfold PrsPost at h
  rw [hp] at h
  exact h
namespace DText

set_option maxRecDepth 100000 in
set_option maxHeartbeats 2000000 in
theorem walk (d : Int) (s : ByteArray) (w : World) (hd0 : 0 ≤ d) (hd1 : d ≤ 18446744073709551615) (hs : s.size ≤ maxLen) :
    Calls Try.prog 7 #[.int .u64 d, .string s] w fun e w' => e = .returned (.bool true) ∧ Below w.heap.size w w' := by
  obtain ⟨d, rfl⟩ := int_bv (n := 64) hd0 (by omega)
  have HW : Hid (∀ W : World, _) := fun W => Aw.walk W
  unfold maxLen at hs
  by_cases hn : s.size > 100
  · have h1 : decide ((100 : Int) < s.size) = true := by simp; omega
    go_enter Try.func7, Try.ntmps7
    go_wp2_with fail
    (with_reducible refine (HW.out _).mono ?_); rintro e w1 ⟨rfl, hb⟩
    go_wp2_with fail
    go_ret
    exact ⟨rfl, hb⟩
  · have h1 : decide ((100 : Int) < s.size) = false := by simp; omega
    obtain ⟨l, hl⟩ := str_bstr s
    obtain ⟨S, hS⟩ : ∃ S, bstr (txt d) = S := ⟨_, rfl⟩
    have hSs : S.size = 16 := by rw [← hS, bstr_size, txt_len]
    have HT : Hid (∀ W : World, _) := fun W => text_n d S hS W
    have HP : Hid (∀ W : World, _) := fun W => parse_n (txt d) S hS d 0 (prs_txt d) W
    have HB : Hid (∀ W : World, _) := fun W => bytes_any d W
    have HO : Hid (∀ (k : Nat), k < 8 → ∃ O : ByteArray, O.size = 16 ∧ ((O.extract 14 16).toList == (S.extract (14 - 2 * k) (14 - 2 * k + 2)).toList) = true ∧ ∀ W : World, Calls Try.prog 21 #[.int .u64 ((byteF d k).toNat : Int)] W fun e w' => e = .returned (.string O) ∧ Below W.heap.size W w') := fun k hk => by
      refine ⟨bstr (txt ((byteF d k).setWidth 64)), by rw [bstr_size, txt_len], ?_, fun W => ?_⟩
      · rw [← hS, bstr_extract, bstr_extract, str_eq, decide_eq_true]
        rw [show 16 - 14 = 2 from rfl, show 14 - 2 * k + 2 - (14 - 2 * k) = 2 by omega, ← byte_txt d k hk]
        exact List.take_of_length_le (by rw [List.length_drop, txt_len]; omega)
      · have := text_any ((byteF d k).setWidth 64) W
        rwa [U64, ← wide] at this
    have HR : Hid (∀ (k : Nat) (W : World) (base : Nat) (g : Option Addr) (c : Nat), k < 8 → W.ownsRow base 5 1 (.slice g 8 c) 8 (cellsB (bytes8 d)) → ∃ b, g = some ⟨b, 0, none⟩ ∧ W.cell? ⟨b, k, none⟩ = some (U8 (byteF d k))) := fun k W base g c hk h => by
      obtain ⟨b, e, _, _, h2, _⟩ := own_here (k := k) h (by decide) (u := U8 (byteF d k)) (by
        rw [cellsB_get]; unfold bytes8; rw [List.getElem?_map, List.getElem?_range hk]; rfl)
      exact ⟨b, e, h2⟩
    clear hS hs hn
    have hcase : ∃ (N : BitVec 64) (k : Int), prs l = (N, k) ∧ ((k = 0 ∧ bstr (txt N) = s) ∨ (k = 50 ∧ N = 0#64)) := by
      unfold prs
      by_cases h : okL l = true
      · rw [if_pos h]
        exact ⟨_, _, rfl, .inl ⟨rfl, by rw [txt_prs h, hl]⟩⟩
      · rw [if_neg h]
        exact ⟨_, _, rfl, .inr ⟨rfl, rfl⟩⟩
    obtain ⟨N, k, hpr, hc⟩ := hcase
    have HP2 : Hid (∀ W : World, _) := fun W => parse_n l s hl.symm N k hpr W
    clear hpr hl
    go_enter Try.func7, Try.ntmps7
    rcases hc with ⟨rfl, hN⟩ | ⟨rfl, rfl⟩
    · have HT2 : Hid (∀ W : World, _) := fun W => text_n N s hN W
      clear hN
      go_wp2_with fail
      (with_reducible refine (HT.out _).mono ?_); rintro e w1 ⟨rfl, hR⟩
      go_wp2_with fail
      (with_reducible refine (HP.out _).mono ?_); rintro e w2 ⟨rfl, hb⟩
      replace hR := hR.trans (hb.mono hR.size)
      clear hb
      go_wp2_with fail
      (with_reducible refine (HP2.out _).mono ?_); rintro e w3 ⟨rfl, hb⟩
      replace hR := hR.trans (hb.mono hR.size)
      clear hb
      go_wp2_with fail
      (with_reducible refine (HT2.out _).mono ?_); rintro e w4 ⟨rfl, hb⟩
      replace hR := hR.trans (hb.mono hR.size)
      clear hb HT2
      go_wp2_with fail
      (with_reducible refine (HB.out _).mono ?_); rintro e w5 ⟨rfl, hown, hb⟩
      replace hR := hR.trans (hb.mono hR.size)
      clear hb
      generalize w4.heap.size = g at hown ⊢
      go_wp2_with fail
      go_loopw [67] (fun i wr => ∃ k : Nat, k ≤ 8 ∧ i = .int .i64 k ∧ wr.ownsRow g 5 1 (.slice (some ⟨g, 0, none⟩) 8 8) 8 (cellsB (bytes8 d)) ∧ Below w.heap.size w wr)
        (fun i _ => 8 - (intOf i).toNat)
      case atStart => exact ⟨0, by omega, rfl, hown, hR⟩
      case round =>
        clear hown hR
        obtain ⟨k, hk, rfl, hown, hR⟩ := hrel
        by_cases hlt : k < 8
        · have hd : decide ((k : Int) < 8) = true := by simp; omega
          have hd7 : decide ((7 : Int) < k) = false := by simp; omega
          obtain ⟨O, hOs, hq, hO⟩ := HO.out k hlt
          obtain ⟨b, e, hc⟩ := HR.out k _ _ _ _ hlt hown
          cases e
          have HO' := Lib.hid hO
          have hm : (14 : Int) - 2 * k = ((14 - 2 * k : Nat) : Int) := by omega
          have hmb : 14 - 2 * k + 2 ≤ 16 := by omega
          generalize 14 - 2 * k = m at hq hm hmb
          generalize byteF d k = z at hc HO'
          clear hO HO HR
          go_wp2_with fail
          (with_reducible refine (HO'.out _).mono ?_); rintro e w6 ⟨rfl, hb⟩
          replace hR := hR.trans (hb.mono hR.size)
          replace hown := own_below hown hb
          clear hb hc
          go_wp2_with fail
          have w1' : IntKind.i64.wrap ((m : Int) + 2) = (m : Int) + 2 := IntWalk.i64_in _ (by omega)
          have w2' : (0 : Int) ≤ (m : Int) + 2 := by omega
          have w3' : ((m : Int) + 2).toNat = m + 2 := by omega
          have w4' : (m : Int) + 2 ≤ 16 := by omega
          have w5' : (m : Int) ≤ (m : Int) + 2 := by omega
          have hq2 : ((O.extract 14 16).toList != (S.extract m (m + 2)).toList) = false := by rw [bne, hq]; rfl
          go_quiet (fail)
          have hbn := below_drewN (Below.refl w6.heap.size w6) nq
          replace hown := own_below hown hbn
          replace hR := hR.trans (hbn.mono hR.size)
          clear hbn w1' w2' w3' w4' w5' hm
          go_wp2_with fail
          go_roundw
          case rel => exact ⟨k + 1, by omega, by go_num, hown, hR⟩
          case measure => simp [intOf]; omega
        · obtain rfl : k = 8 := by omega
          clear hown HO HR
          go_wp2_with fail
          (with_reducible refine (HB.out _).mono ?_); rintro e w6 ⟨rfl, -, hb⟩
          replace hR := hR.trans (hb.mono hR.size)
          clear hb
          go_wp2_with fail
          (with_reducible refine (HW.out _).mono ?_); rintro e w7 ⟨rfl, hb⟩
          replace hR := hR.trans (hb.mono hR.size)
          clear hb
          go_wp2_with fail
          go_ret
          exact ⟨rfl, hR⟩
    · go_wp2_with fail
      (with_reducible refine (HT.out _).mono ?_); rintro e w1 ⟨rfl, hR⟩
      go_wp2_with fail
      (with_reducible refine (HP.out _).mono ?_); rintro e w2 ⟨rfl, hb⟩
      replace hR := hR.trans (hb.mono hR.size)
      clear hb
      go_wp2_with fail
      (with_reducible refine (HP2.out _).mono ?_); rintro e w3 ⟨rfl, hb⟩
      replace hR := hR.trans (hb.mono hR.size)
      clear hb
      go_wp2_with fail
      (with_reducible refine (HB.out _).mono ?_); rintro e w5 ⟨rfl, hown, hb⟩
      replace hR := hR.trans (hb.mono hR.size)
      clear hb
      generalize w3.heap.size = g at hown ⊢
      go_wp2_with fail
      go_loopw [67] (fun i wr => ∃ k : Nat, k ≤ 8 ∧ i = .int .i64 k ∧ wr.ownsRow g 5 1 (.slice (some ⟨g, 0, none⟩) 8 8) 8 (cellsB (bytes8 d)) ∧ Below w.heap.size w wr)
        (fun i _ => 8 - (intOf i).toNat)
      case atStart => exact ⟨0, by omega, rfl, hown, hR⟩
      case round =>
        clear hown hR
        obtain ⟨k, hk, rfl, hown, hR⟩ := hrel
        by_cases hlt : k < 8
        · have hd : decide ((k : Int) < 8) = true := by simp; omega
          have hd7 : decide ((7 : Int) < k) = false := by simp; omega
          obtain ⟨O, hOs, hq, hO⟩ := HO.out k hlt
          obtain ⟨b, e, hc⟩ := HR.out k _ _ _ _ hlt hown
          cases e
          have HO' := Lib.hid hO
          have hm : (14 : Int) - 2 * k = ((14 - 2 * k : Nat) : Int) := by omega
          have hmb : 14 - 2 * k + 2 ≤ 16 := by omega
          generalize 14 - 2 * k = m at hq hm hmb
          generalize byteF d k = z at hc HO'
          clear hO HO HR
          go_wp2_with fail
          (with_reducible refine (HO'.out _).mono ?_); rintro e w6 ⟨rfl, hb⟩
          replace hR := hR.trans (hb.mono hR.size)
          replace hown := own_below hown hb
          clear hb hc
          go_wp2_with fail
          have w1' : IntKind.i64.wrap ((m : Int) + 2) = (m : Int) + 2 := IntWalk.i64_in _ (by omega)
          have w2' : (0 : Int) ≤ (m : Int) + 2 := by omega
          have w3' : ((m : Int) + 2).toNat = m + 2 := by omega
          have w4' : (m : Int) + 2 ≤ 16 := by omega
          have w5' : (m : Int) ≤ (m : Int) + 2 := by omega
          have hq2 : ((O.extract 14 16).toList != (S.extract m (m + 2)).toList) = false := by rw [bne, hq]; rfl
          go_quiet (fail)
          have hbn := below_drewN (Below.refl w6.heap.size w6) nq
          replace hown := own_below hown hbn
          replace hR := hR.trans (hbn.mono hR.size)
          clear hbn w1' w2' w3' w4' w5' hm
          go_wp2_with fail
          go_roundw
          case rel => exact ⟨k + 1, by omega, by go_num, hown, hR⟩
          case measure => simp [intOf]; omega
        · obtain rfl : k = 8 := by omega
          clear hown HO HR
          go_wp2_with fail
          (with_reducible refine (HB.out _).mono ?_); rintro e w6 ⟨rfl, -, hb⟩
          replace hR := hR.trans (hb.mono hR.size)
          clear hb
          go_wp2_with fail
          (with_reducible refine (HW.out _).mono ?_); rintro e w7 ⟨rfl, hb⟩
          replace hR := hR.trans (hb.mono hR.size)
          clear hb
          go_wp2_with fail
          go_ret
          exact ⟨rfl, hR⟩
end DText
end Go.Proofs.Ytdoliblcilhneaa
