/- LexPlaces: the place of an offset is found again by skipping lines. -/
import Derived.Test.YtbpncbomcdpogaaAwake
namespace Go.Proofs.Ytbpncbomcdpogaa
open Go.RowKit Go.Joins

/-- Where the last line begins. -/
def stt (m : List (BitVec 8)) : Nat := m.length + 1 - (plc m).2
theorem stt_le (m : List (BitVec 8)) : stt m ≤ m.length ∧ stt m + (plc m).2 = m.length + 1 := by
  have := plc_le m
  unfold stt; omega
theorem stt_snoc (m : List (BitVec 8)) (c : BitVec 8) : stt (m ++ [c]) = if c = 10#8 then m.length + 1 else stt m := by
  have h := stt_le m
  unfold stt at h ⊢
  rw [plc_snoc, List.length_append]
  split <;> simp <;> omega
theorem take_at {l : List (BitVec 8)} {k : Nat} {z : BitVec 8} (h : l[k]? = some z) : l.take (k + 1) = l.take k ++ [z] := take_snoc' h
/-- Lines do not become fewer. -/
theorem plc_mono (l : List (BitVec 8)) : ∀ (d k : Nat), k + d ≤ l.length → (plc (l.take k)).1 ≤ (plc (l.take (k + d))).1
  | 0, k, _ => Nat.le_refl _
  | d + 1, k, h => by
    refine Nat.le_trans (plc_mono l d k (by omega)) ?_
    have hg : l[k + d]? = some (l[k + d]'(by omega)) := List.getElem?_eq_getElem (by omega)
    rw [show k + (d + 1) = k + d + 1 by omega, take_at hg, plc_snoc]
    split <;> simp
/-- Where the line is the same, it begins at the same offset. -/
theorem stt_same (l : List (BitVec 8)) : ∀ (d k : Nat), k + d ≤ l.length → (plc (l.take k)).1 = (plc (l.take (k + d))).1 → stt (l.take (k + d)) = stt (l.take k)
  | 0, k, _, _ => rfl
  | d + 1, k, h, he => by
    have hg : l[k + d]? = some (l[k + d]'(by omega)) := List.getElem?_eq_getElem (by omega)
    have h1 := plc_mono l d k (by omega)
    rw [show k + (d + 1) = k + d + 1 by omega, take_at hg] at he ⊢
    rw [plc_snoc] at he
    rw [stt_snoc]
    split at he
    · simp at he; omega
    · rename_i hc
      rw [if_neg hc]
      exact stt_same l d k (by omega) he
/-- There is no newline in the last line. -/
theorem no_nl (l : List (BitVec 8)) : ∀ (p : Nat), p ≤ l.length → ∀ i, stt (l.take p) ≤ i → i < p → ∀ z, l[i]? = some z → z ≠ 10#8
  | 0, _, i, _, h, _, _ => by omega
  | p + 1, hp, i, h1, h2, z, hz => by
    have hg : l[p]? = some (l[p]'(by omega)) := List.getElem?_eq_getElem (by omega)
    rw [take_at hg, stt_snoc] at h1
    split at h1
    · rw [List.length_take, Nat.min_eq_left (by omega)] at h1; omega
    · rename_i hc
      by_cases hi : i = p
      · subst hi
        rw [hg] at hz
        cases hz; exact hc
      · exact no_nl l p (by omega) i h1 (by omega) z hz

namespace Pl
set_option maxRecDepth 100000 in
set_option maxHeartbeats 8000000 in
theorem walk (S : ByteArray) (a : Int) (w : World) (hS : S.size ≤ maxLen) (ha0 : -9223372036854775808 ≤ a) (ha1 : a ≤ 9223372036854775807) :
    Calls Try.prog 10 #[.string S, .int .i64 a] w fun e w' => e = .returned (.bool true) ∧ Below w.heap.size w w' := by
  obtain ⟨l, rfl⟩ := str_bstr S
  have HW : Hid (∀ W : World, _) := fun W => Aw.walk W
  have hbs := bstr_size l
  rw [hbs] at hS
  unfold maxLen at hS
  go_enter Try.func10, Try.ntmps10
  go_wp2_with fail
  (with_reducible refine (HW.out _).mono ?_); rintro e w1 ⟨rfl, hB⟩
  clear HW
  by_cases hlen : 4000 < l.length
  · have hd : decide ((4000 : Int) < l.length) = true := by simp; omega
    go_wp2_with fail
    go_ret
    exact ⟨rfl, hB⟩
  have hd : decide ((4000 : Int) < l.length) = false := by simp; omega
  have hpl := posN_le a l.length
  have hpe : (posN a l.length : Int) = min (max a 0) l.length := by unfold posN; omega
  obtain ⟨m, hm⟩ : ∃ m, m = max a 0 := ⟨_, rfl⟩
  rw [← hm] at hpe
  have hmax := fun W => max2 a m hm #[3, 3] 3 W
  have hmin := fun W => min2 m l.length _ hpe #[3, 3] 3 W
  have HP : Hid (∀ W : World, _) := fun W => place_any l (by omega) a W
  generalize posN a l.length = p at *
  obtain ⟨h1, h2, h3, h4⟩ := plc_le (l.take p)
  obtain ⟨s1, s2⟩ := stt_le (l.take p)
  have hmono : Hid (∀ k, k ≤ p → (plc (l.take k)).1 ≤ (plc (l.take p)).1) := fun k hk => by
    have := plc_mono l (p - k) k (by omega)
    rwa [show k + (p - k) = p by omega] at this
  have hsame : Hid (∀ k, k ≤ p → (plc (l.take k)).1 = (plc (l.take p)).1 → stt (l.take k) = stt (l.take p)) := fun k hk he => by
    have := stt_same l (p - k) k (by omega)
    rw [show k + (p - k) = p by omega] at this
    exact (this he).symm
  have hnonl : Hid (∀ i, stt (l.take p) ≤ i → i < p → ∀ z, l[i]? = some z → z ≠ 10#8) := no_nl l p hpl
  rw [List.length_take, Nat.min_eq_left hpl] at h2 h4 s1 s2
  have hline1 : Hid (∀ k, 1 ≤ (plc (l.take k)).1) := fun k => (plc_le (l.take k)).1
  have HX : Hid (∀ (k : Nat) (z : BitVec 8), l[k]? = some z → ∀ w, (Instr.index 9 (.string (bstr l)) (.int .i64 k)).run Try.prog w = .ok (U8 z) w) := fun k z h w => index_bstr l k z h w
  generalize (plc (l.take p)).2 = cl at *
  obtain ⟨ln, hln⟩ : ∃ ln, (plc (l.take p)).1 = ln := ⟨_, rfl⟩
  rw [hln] at HP h1 h2 hmono hsame
  obtain ⟨sp, hsp⟩ : ∃ sp, stt (l.take p) = sp := ⟨_, rfl⟩
  rw [hsp] at hsame hnonl s1 s2
  have HLN := Lib.hid hln
  have hstk : Hid (∀ k, k ≤ p → stt (l.take k) ≤ k) := fun k hk => by
    have := (stt_le (l.take k)).1
    rw [List.length_take, Nat.min_eq_left (by omega)] at this
    exact this
  clear hln hsp hm hpe
  go_wp2_with fail
  (with_reducible refine (HP.out _).mono ?_); rintro e w2 ⟨rfl, rfl⟩
  clear HP hd
  go_wp2_with fail
  go_loopw [5, 7, 8] (fun x f i wr => ∃ k : Nat, k ≤ p ∧ i = .int .i64 k ∧ x = .int .i64 ((ln : Int) - (plc (l.take k)).1 + 1) ∧ f = .int .i64 (stt (l.take k)) ∧ wr = w2)
    (fun _ _ i _ => l.length - (intOf i).toNat)
  case atStart => exact ⟨0, Nat.zero_le _, rfl, by simp [plc], rfl, rfl⟩
  case round =>
    obtain ⟨k, hk, rfl, rfl, rfl, rfl⟩ := hrel
    have hmk := hmono.out k hk
    have hl1 := hline1.out k
    have hsk := hstk.out k hk
    by_cases hgt : (plc (l.take k)).1 < ln
    · have hkp : k < p := by
        rcases Nat.lt_or_ge k p with h | h
        · exact h
        · have : k = p := by omega
          subst this
          have := HLN.out
          omega
      have hlt : k < l.length := by omega
      have hgk : l[k]? = some l[k] := List.getElem?_eq_getElem hlt
      obtain ⟨z, hz⟩ : ∃ z, l[k] = z := ⟨_, rfl⟩
      rw [hz] at hgk
      have hi := fun W => HX.out k z hgk W
      have hpn := plc_snoc (l.take k) z
      have hsn := stt_snoc (l.take k) z
      rw [← take_at hgk] at hpn hsn
      rw [List.length_take, Nat.min_eq_left (by omega)] at hsn
      have hq := beq_bv z 10#8
      rw [show (((10#8 : BitVec 8)).toNat : Int) = 10 from rfl] at hq
      have HPN := Lib.hid hpn
      have HSN := Lib.hid hsn
      clear hpn hsn hgk hz HX hmono hsame hnonl hline1 hstk hmax hmin
      generalize (plc (l.take k)).1 = q at *
      generalize stt (l.take k) = s at *
      have hd2 : decide ((1 : Int) < (ln : Int) - q + 1) = true := by simp; omega
      by_cases h10 : z = 10#8
      · rw [decide_eq_true h10] at hq
        have e1 : Hid ((plc (l.take (k + 1))).1 = q + 1) := by unfold Hid; rw [HPN.out, if_pos h10]
        have e2 : Hid (stt (l.take (k + 1)) = k + 1) := by unfold Hid; rw [HSN.out, if_pos h10]
        clear HPN HSN h10
        go_wp2_with fail
        go_roundw
        case rel => exact ⟨k + 1, by omega, by go_num, by rw [e1.out]; first | rfl | (congr 1; omega), by rw [e2.out]; go_num, by first | rfl | trivial⟩
        case measure => simp [intOf]; omega
      · rw [decide_eq_false h10] at hq
        have e1 : Hid ((plc (l.take (k + 1))).1 = q) := by unfold Hid; rw [HPN.out, if_neg h10]
        have e2 : Hid (stt (l.take (k + 1)) = s) := by unfold Hid; rw [HSN.out, if_neg h10]
        clear HPN HSN h10
        go_wp2_with fail
        go_roundw
        case rel => exact ⟨k + 1, by omega, by go_num, by rw [e1.out], by rw [e2.out], by first | rfl | trivial⟩
        case measure => simp [intOf]; omega
    · have hqe : (plc (l.take k)).1 = ln := by omega
      have hse := hsame.out k hk hqe
      rw [hse]
      have hx1 : (ln : Int) - (plc (l.take k)).1 + 1 = 1 := by omega
      rw [hx1]
      have hne : ((posN a l.length : Int) != posN a l.length) = false := by simp
      clear hmono hsame hline1 hstk hmk hl1 hgt hx1 hsk hse hne hqe
      have hto : (sp : Int) + cl - 1 = p := by omega
      have hcl : decide ((cl : Int) < 1) = false := by simp; omega
      have hpl2 : decide ((l.length : Int) < p) = false := by simp; omega
      rcases Nat.lt_or_ge k l.length with hkl | hkl
      all_goals
        go_wp2_with fail
        clear hmax hmin
        go_loopw [10] (fun i wx => ∃ j : Nat, sp ≤ j ∧ j ≤ p ∧ i = .int .i64 j ∧ wx = wr)
          (fun i _ => p - (intOf i).toNat)
        case atStart => exact ⟨sp, Nat.le_refl _, s1, rfl, rfl⟩
        case round =>
          obtain ⟨j, hj1, hj2, rfl, rfl⟩ := hrel
          by_cases hjp : j < p
          · have hgk : l[j]? = some (l[j]'(by omega)) := List.getElem?_eq_getElem (by omega)
            obtain ⟨z, hz⟩ : ∃ z, l[j]'(by omega) = z := ⟨_, rfl⟩
            rw [hz] at hgk
            have hi := fun W => HX.out j z hgk W
            have hq := beq_bv z 10#8
            rw [show (((10#8 : BitVec 8)).toNat : Int) = 10 from rfl, decide_eq_false (hnonl.out j hj1 hjp z hgk)] at hq
            have hjl : j < l.length := by omega
            clear hgk hz HX hnonl
            go_wp2_with fail
            go_roundw
            case rel => exact ⟨j + 1, by omega, by omega, by go_num, by first | rfl | trivial⟩
            case measure => simp [intOf]; omega
          · obtain rfl : j = p := by omega
            go_wp2_with fail
            go_ret
            exact ⟨rfl, hB⟩
end Pl
end Go.Proofs.Ytbpncbomcdpogaa
