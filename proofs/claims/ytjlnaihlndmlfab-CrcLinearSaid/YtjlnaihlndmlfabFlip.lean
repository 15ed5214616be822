/- The contract of the law package's flipped. -/
import Derived.Test.YtjlnaihlndmlfabBurst0
namespace Go.Proofs.Ytjlnaihlndmlfab
open Go.RowKit Go.Joins

/-- A cell of one's own row is written. -/
theorem own_set {W : World} {base b n c j : Nat} {m : List (BitVec 8)} (h : W.ownsRow base 5 1 (.slice (some ⟨b, 0, none⟩) n c) n (cellsB m)) (z : BitVec 8) :
    (W.setCell ⟨b, j, none⟩ (U8 z)).ownsRow base 5 1 (.slice (some ⟨b, 0, none⟩) n c) n (cellsB (m.set j z)) := by
  have hm : m.length = n := by have := h.1; rw [cellsB_len] at this; omega
  rcases h.2 with ⟨e, _⟩ | ⟨g', cap, cur, e, e2, hg, h4, h5, h6, h7⟩
  · cases e
  · simp only [Value.slice.injEq, Option.some.injEq, Addr.mk.injEq, and_true, true_and] at e
    obtain ⟨rfl, rfl⟩ := e
    refine ⟨by rw [cellsB_len, List.length_set]; omega, .inr ⟨b, c, cur.setIfInBounds j (U8 z), rfl, e2, BoxN.set1 (t := 5) (cs := cur) j (U8 z) hg, h4, h5, by simpa using h6, ?_⟩⟩
    rw [Array.toList_setIfInBounds, List.take_set, h7]
    unfold cellsB
    rw [List.map_set]

theorem or_one (x : BitVec 32) : bits .or .u32 (x.toNat : Int) 1 = ((x ||| 1#32).toNat : Int) := by
  have := x.isLt
  rw [show (1 : Int) = ((1 : Nat) : Int) from rfl, u32_or_nat _ _ (by omega) (by omega), BitVec.toNat_or]; rfl
theorem bit_k (p : BitVec 32) (k : Nat) : bits .and .u32 ((p.toNat : Int) / (2 ^ k : Int)) 1 = if p.getLsbD k then 1 else 0 := by
  have hp := p.isLt
  have e : (p.toNat : Int) / (2 ^ k : Int) = ((p.toNat / 2 ^ k : Nat) : Int) := by rw [Int.natCast_ediv]; simp
  have hl : p.toNat / 2 ^ k ≤ p.toNat := Nat.div_le_self _ _
  rw [e, show (1 : Int) = ((1 : Nat) : Int) from rfl, u32_and_nat _ _ (by omega) (by omega), Nat.and_one_is_mod]
  have h2 : p.getLsbD k = decide (p.toNat / 2 ^ k % 2 = 1) := by
    unfold BitVec.getLsbD
    rw [Nat.testBit_eq_decide_div_mod_eq]
  rw [h2]
  rcases Nat.mod_two_eq_zero_or_one (p.toNat / 2 ^ k) with h | h <;> rw [h] <;> simp

set_option maxRecDepth 100000 in
set_option maxHeartbeats 4000000 in
theorem flipped_any (A : Option Addr) (cap : Nat) (l : List (BitVec 8)) (n : Nat) (hn : l.length = n) (hlen : n ≤ 1048576) (at' : Nat) (hat : at' ≤ 1073741824) (x : BitVec 32) (w : World) (hl : isB A l w) :
    Calls Try.prog 12 #[.slice A n cap, .int .i64 at', U32 x] w fun e w' => ∃ B c, e = .returned (.slice B n c) ∧ isB B (fl l at' (x ||| 1#32) 32) w' ∧ n ≤ c ∧ Below w.heap.size w w' := by
  obtain ⟨i0, hi, hz0, hz1, hz2⟩ := info_parts infoB
  have hor := or_one x
  have oa := cellsB_one l
  have la : (cellsB l).length = n * 1 := by rw [cellsB_len, hn, Nat.mul_one]
  have hoe := own_empty w (Nat.le_refl _)
  have hBe := (Below.refl w.heap.size w).alloc (Nat.le_refl _) (.cells #[] 5)
  have hAn := (hl.keep hBe).news
  rw [hn] at hAn
  generalize x ||| 1#32 = p at hor ⊢
  have Hn := Lib.hid hn
  clear hn hl
  go_enter Try.func12, Try.ntmps12
  go_wp2_with (at_builtin; refine app_any _ rfl (.tmp 10) (.tmp 11) 22 rfl w.heap.size 5 i0 _ 1 1 Try.underlying22 hi hz0 hz1 hz2 rfl (by decide) (.slice (some ⟨w.heap.size, 0, none⟩) 0 0) 0 [] rfl hoe A n cap (cellsB l) rfl la hAn oa (by unfold maxLen; omega) (by omega) hBe.size ?_; intro v1 w1 hown1 hg1; have hB1 : Below w.heap.size w w1 := hBe.grown hg1 hBe.size (fun k e => own_block_le hoe k e); rw [Nat.zero_add, List.nil_append] at hown1; obtain ⟨g1, cg1, rfl⟩ := own_slice hown1)
  clear hoe hBe hAn oa la hg1
  go_loopw [13] (fun i wr => ∃ k : Nat, k ≤ 32 ∧ i = .int .i64 k ∧ wr.ownsRow w.heap.size 5 1 (.slice g1 n cg1) n (cellsB (fl l at' p k)) ∧ Below w.heap.size w wr)
    (fun i _ => 32 - (intOf i).toNat)
  case atStart => exact ⟨0, by omega, rfl, hown1, hB1⟩
  case round =>
    clear hown1 hB1
    obtain ⟨k, hk, rfl, hown, hB⟩ := hrel
    by_cases hlt : k < 32
    · have hd : decide ((k : Int) < 32) = true := by simp; omega
      have hbk := bit_k p k
      cases hp : p.getLsbD k with
      | false =>
        rw [hp] at hbk
        simp only [Bool.false_eq_true, if_false] at hbk
        have hf : Hid (fl l at' p (k + 1) = fl l at' p k) := by unfold Hid; rw [fl, hp]; rfl
        clear hp
        go_wp2_with fail
        go_roundw
        case rel => exact ⟨k + 1, by omega, by go_num, by rw [hf.out]; exact hown, hB⟩
        case measure => simp [intOf]; omega
      | true =>
        rw [hp] at hbk
        simp only [if_true] at hbk
        have hf : Hid (fl l at' p (k + 1) = flipBit (fl l at' p k) (at' + k)) := by unfold Hid; rw [fl, hp]; rfl
        have hfl := fl_len l at' p k
        rw [Hn.out] at hfl
        clear hp
        by_cases hin : at' + k < 8 * n
        · obtain ⟨K, hK⟩ : ∃ K, at' + k = K := ⟨_, rfl⟩
          have hKc : (at' : Int) + (k : Int) = (K : Int) := by omega
          rw [hK] at hin hf
          have hj : K / 8 < n := by omega
          obtain ⟨b, g0, hg1, hfz⟩ : ∃ b, ∃ _ : w.heap.size ≤ b, g1 = some ⟨b, 0, none⟩ ∧ wr.frozen? ⟨b, K / 8, none⟩ = false := by
            rcases hown.2 with ⟨_, e⟩ | ⟨g', c', cur, e, e2, hg, _⟩
            · omega
            · simp only [Value.slice.injEq] at e
              exact ⟨g', e2, e.1, BoxN.frozen (t := 5) (cs := cur) hg _⟩
          subst hg1
          have hz : (fl l at' p k)[K / 8]? = some ((fl l at' p k).getD (K / 8) 0#8) := by
            rw [List.getD_eq_getElem?_getD, List.getElem?_eq_getElem (by omega)]; rfl
          have hc := hown.cells (g := b) rfl (K / 8) (U8 ((fl l at' p k).getD (K / 8) 0#8)) (by rw [cellsB_get, hz]; rfl)
          rw [Addr.add_lit, Nat.zero_add] at hc
          have hset : Hid (∀ v, (wr.setCell ⟨b, K / 8, none⟩ (U8 v)).ownsRow w.heap.size 5 1 (.slice (some ⟨b, 0, none⟩) n cg1) n (cellsB ((fl l at' p k).set (K / 8) v))) := fun v => own_set hown v
          have hf2 : Hid (fl l at' p (k + 1) = (fl l at' p k).set (K / 8) ((fl l at' p k).getD (K / 8) 0#8 ^^^ (1#8 <<< (K % 8)))) := by
            unfold Hid; rw [hf.out, flipBit, hfl, if_pos hin]
          have hx := xor8 ((fl l at' p k).getD (K / 8) 0#8) (1#8 <<< (K % 8))
          have hsh : (2 : Int) ^ (K % 8) % 256 = ((1#8 <<< (K % 8)).toNat : Int) := by
            rw [BitVec.toNat_shiftLeft]
            have : (1#8).toNat <<< (K % 8) = 2 ^ (K % 8) := by rw [Nat.shiftLeft_eq]; simp
            rw [this]; simp
          have hd1 : (K : Int) / 8 = ((K / 8 : Nat) : Int) := by omega
          have hd2 : (K : Int) % 8 = ((K % 8 : Nat) : Int) := by omega
          have hK1 : K ≤ 8388608 := by omega
          simp only [U8] at hc hset
          obtain ⟨v, hv⟩ : ∃ v, (fl l at' p k).getD (K / 8) 0#8 ^^^ (1#8 <<< (K % 8)) = v := ⟨_, rfl⟩
          rw [hv] at hx hf2
          clear hv hz hfl hf hown
          generalize (fl l at' p k).getD (K / 8) 0#8 = z at hx hc
          generalize 1#8 <<< (K % 8) = y at hx hsh
          have hin2 : (K : Int) < 8 * (n : Int) := by omega
          have hdd : decide ((K : Int) < 8 * (n : Int)) = true := by simp; omega
          have HK := Lib.hid hK
          clear hK
          generalize z.toNat = z at hx hc
          generalize y.toNat = y at hx hsh
          generalize K % 8 = q at hd2 hsh
          generalize K / 8 = j at hd1 hj hc hfz hset hf2
          go_wp2_with fail
          go_region
          have ho2 := Lib.hid (World.ownsRow.drew (hset.out v))
          have hB2 := Lib.hid ((hB.setCell (p := ⟨b, j, none⟩) g0 (.int .u8 (v.toNat : Int))).drew)
          clear hc hfz hB hset
          go_wp2_with fail
          go_roundw
          case rel => exact ⟨k + 1, by omega, by go_num, by rw [hf2.out]; exact ho2.out, hB2.out⟩
          case measure => simp [intOf]; omega
        · have hf2 : Hid (fl l at' p (k + 1) = fl l at' p k) := by unfold Hid; rw [hf.out, flipBit, hfl, if_neg hin]
          have hdi : decide ((at' : Int) + k < 8 * n) = false := by simp; omega
          clear hfl
          go_wp2_with fail
          go_roundw
          case rel => exact ⟨k + 1, by omega, by go_num, by rw [hf2.out]; exact hown, hB⟩
          case measure => simp [intOf]; omega
    · obtain rfl : k = 32 := by omega
      have hi := isB_of_own hown
      have hc := own_cap hown
      clear hown
      go_wp2_with fail
      go_ret
      exact ⟨g1, cg1, rfl, hi, hc, hB⟩
end Go.Proofs.Ytjlnaihlndmlfab
