/- Digits of numbers, texts and bytes: plain mathematics. -/
import Derived.Test.YtdoliblcilhneaaShare
namespace Go.Proofs.Ytdoliblcilhneaa

theorem fin16 {p : BitVec 8 → Prop} (h : ∀ k : Fin 16, p (BitVec.ofNat 8 k.val)) {x : BitVec 8} (hx : x.toNat < 16) : p x := by
  have := h ⟨x.toNat, hx⟩
  simpa using this
theorem hv_chr {x : BitVec 8} (hx : x.toNat < 16) : hv (chr x) = x := fin16 (p := fun x => hv (chr x) = x) (by decide) hx
theorem good_chr {x : BitVec 8} (hx : x.toNat < 16) : good (chr x) = true := fin16 (p := fun x => good (chr x) = true) (by decide) hx
theorem fin256 {p : BitVec 8 → Prop} (h : ∀ k : Fin 256, p (BitVec.ofNat 8 k.val)) (x : BitVec 8) : p x := by
  have := h ⟨x.toNat, x.isLt⟩
  simpa using this
theorem chr_hv_aux : ∀ k : Fin 256, good (BitVec.ofNat 8 k.val) = true → chr (hv (BitVec.ofNat 8 k.val)) = BitVec.ofNat 8 k.val ∧ (hv (BitVec.ofNat 8 k.val)).toNat < 16 := by decide +kernel
theorem chr_hv {c : BitVec 8} (h : good c = true) : chr (hv c) = c ∧ (hv c).toNat < 16 :=
  fin256 (p := fun c => good c = true → chr (hv c) = c ∧ (hv c).toNat < 16) chr_hv_aux c h

theorem nib_join (x : BitVec 64) : ((x >>> 4) <<< 4) ||| ((x &&& 15#64).setWidth 8).setWidth 64 = x := by
  apply BitVec.eq_of_getLsbD_eq
  intro i hi
  have h15 : (15#64).getLsbD i = decide (i < 4) := by
    rw [show (15#64) = BitVec.ofNat 64 (2 ^ 4 - 1) from rfl, BitVec.getLsbD_ofNat, Nat.testBit_two_pow_sub_one]; simp [hi]
  simp only [BitVec.getLsbD_or, BitVec.getLsbD_shiftLeft, BitVec.getLsbD_ushiftRight, BitVec.getLsbD_setWidth, BitVec.getLsbD_and, h15]
  by_cases h : i < 4
  · have h8 : i < 8 := by omega
    simp [h, hi, h8]
  · have e : 4 + (i - 4) = i := by omega
    simp [h, hi, e]
theorem numL_take (d : BitVec 64) : ∀ j, j ≤ 16 → numL ((digs d).take j) = d >>> (4 * (16 - j))
  | 0, _ => by
    show 0#64 = _
    apply BitVec.eq_of_getLsbD_eq
    intro i hi
    rw [BitVec.getLsbD_ushiftRight, BitVec.getLsbD_of_ge d (4 * (16 - 0) + i) (by omega), BitVec.getLsbD_zero]
  | j + 1, hj => by
    have hg : (digs d)[j]? = some (digF d j) := by
      unfold digs; rw [List.getElem?_map, List.getElem?_range (by omega)]; rfl
    rw [take_snoc' hg, numL_snoc, numL_take d j (by omega)]
    unfold digF
    rw [show 15 - j = 16 - (j + 1) by omega]
    generalize hx : d >>> (4 * (16 - (j + 1))) = x
    rw [show d >>> (4 * (16 - j)) = x >>> 4 by rw [← hx, ← BitVec.shiftRight_add]; congr 1; omega]
    exact nib_join x
theorem numL_digs (d : BitVec 64) : numL (digs d) = d := by
  have h := numL_take d 16 (Nat.le_refl _)
  rw [List.take_of_length_le (by rw [digs_len]; omega)] at h
  rw [h]; simp
theorem map_hv_txt (d : BitVec 64) : (txt d).map hv = digs d := by
  unfold txt
  rw [List.map_map]
  conv => rhs; rw [← List.map_id (digs d)]
  apply List.map_congr_left
  intro x hx
  exact hv_chr (digs_lt hx)
theorem okL_txt (d : BitVec 64) : okL (txt d) = true := by
  unfold okL
  rw [txt_len, decide_eq_true rfl, Bool.true_and, List.all_eq_true]
  intro z hz
  unfold txt at hz
  obtain ⟨x, hx, rfl⟩ := List.mem_map.1 hz
  exact good_chr (digs_lt hx)
theorem prs_txt (d : BitVec 64) : prs (txt d) = (d, 0) := by
  unfold prs
  rw [okL_txt, if_pos rfl, map_hv_txt, numL_digs]

/-- A digit of what digits make. -/
theorem numL_digit : ∀ (m : Nat) (L : List (BitVec 8)), L.length = m → m ≤ 16 → (∀ x ∈ L, x.toNat < 16) → ∀ (i : Nat) (z : BitVec 8), L[i]? = some z → ((numL L >>> (4 * (m - 1 - i))) &&& 15#64).setWidth 8 = z
  | 0, L, hL, _, _, i, z, hz => by
    rw [List.eq_nil_of_length_eq_zero hL] at hz; cases hz
  | m + 1, L, hL, hm, hlt, i, z, hz => by
    have hne : L ≠ [] := by intro h; rw [h] at hL; simp at hL
    obtain ⟨M, x, rfl⟩ : ∃ M x, L = M ++ [x] := ⟨L.dropLast, L.getLast hne, (List.dropLast_concat_getLast hne).symm⟩
    have hM : M.length = m := by simpa using hL
    have hx : x.toNat < 16 := hlt x (by simp)
    have hxb : ∀ k, 4 ≤ k → x.getLsbD k = false := fun k hk => by
      unfold BitVec.getLsbD
      apply Nat.testBit_lt_two_pow
      have : 2 ^ 4 ≤ 2 ^ k := Nat.pow_le_pow_right (by decide) hk
      omega
    have h15 : ∀ k, (15#64).getLsbD k = decide (k < 4) := fun k => by
      rw [show (15#64) = BitVec.ofNat 64 (2 ^ 4 - 1) from rfl, BitVec.getLsbD_ofNat, Nat.testBit_two_pow_sub_one]
      by_cases h : k < 4
      · have : k < 64 := by omega
        simp [h, this]
      · simp [h]
    rw [numL_snoc]
    by_cases hi : i < m
    · rw [List.getElem?_append_left (by omega)] at hz
      have ih := numL_digit m M hM (by omega) (fun y hy => hlt y (by simp [hy])) i z hz
      rw [← ih]
      apply BitVec.eq_of_getLsbD_eq
      intro k hk
      simp only [BitVec.getLsbD_setWidth, BitVec.getLsbD_and, BitVec.getLsbD_ushiftRight, BitVec.getLsbD_or, BitVec.getLsbD_shiftLeft, h15]
      by_cases h4 : k < 4
      · have e1 : 4 * (m + 1 - 1 - i) + k - 4 = 4 * (m - 1 - i) + k := by omega
        have e2 : ¬ (4 * (m + 1 - 1 - i) + k < 4) := by omega
        have e3 : 4 * (m + 1 - 1 - i) + k < 64 := by omega
        have e4 : x.getLsbD (4 * (m + 1 - 1 - i) + k) = false := hxb _ (by omega)
        rw [e1, e4, decide_eq_false e2, decide_eq_true e3]; simp
      · simp [h4]
    · obtain rfl : i = m := by
        have := (List.getElem?_eq_some_iff.1 hz).1
        rw [hL] at this; omega
      rw [List.getElem?_append_right (by omega), hM, Nat.sub_self] at hz
      simp at hz
      subst hz
      rw [show 4 * (i + 1 - 1 - i) = 0 by omega]
      apply BitVec.eq_of_getLsbD_eq
      intro k hk
      simp only [BitVec.getLsbD_setWidth, BitVec.getLsbD_and, BitVec.getLsbD_ushiftRight, BitVec.getLsbD_or, BitVec.getLsbD_shiftLeft, h15]
      by_cases h4 : k < 4
      · have : k < 64 := by omega
        simp [h4, hk, this]
      · rw [hxb k (by omega)]; simp [h4]
theorem digs_numL (L : List (BitVec 8)) (hL : L.length = 16) (hlt : ∀ x ∈ L, x.toNat < 16) : digs (numL L) = L := by
  apply List.ext_getElem?
  intro i
  by_cases hi : i < 16
  · have hg : L[i]? = some (L[i]'(by omega)) := List.getElem?_eq_getElem _
    unfold digs
    rw [List.getElem?_map, List.getElem?_range hi, hg]
    have := numL_digit 16 L hL (Nat.le_refl _) hlt i _ hg
    simp only [Option.map_some]
    congr 1
  · rw [List.getElem?_eq_none (by rw [digs_len]; omega), List.getElem?_eq_none (by omega)]
theorem txt_prs {l : List (BitVec 8)} (h : okL l = true) : txt (numL (l.map hv)) = l := by
  unfold okL at h
  simp only [Bool.and_eq_true, decide_eq_true_eq, List.all_eq_true] at h
  unfold txt
  rw [digs_numL _ (by rw [List.length_map]; exact h.1) (by
    intro x hx
    obtain ⟨c, hc, rfl⟩ := List.mem_map.1 hx
    exact (chr_hv (h.2 c hc)).2), List.map_map]
  conv => rhs; rw [← List.map_id l]
  apply List.map_congr_left
  intro c hc
  exact (chr_hv (h.2 c hc)).1

/-- A byte's digits are two of the number's. -/
theorem nib_byte (d : BitVec 64) (i j : Nat) (hj : j < 2) : ((((byteF d i).setWidth 64) >>> (4 * j)) &&& 15#64).setWidth 8 = ((d >>> (8 * i + 4 * j)) &&& 15#64).setWidth 8 := by
  apply BitVec.eq_of_getLsbD_eq
  intro k hk
  unfold byteF
  simp only [BitVec.getLsbD_setWidth, BitVec.getLsbD_and, BitVec.getLsbD_ushiftRight]
  have h15 : (15#64).getLsbD k = decide (k < 4) := by
    rw [show (15#64) = BitVec.ofNat 64 (2 ^ 4 - 1) from rfl, BitVec.getLsbD_ofNat, Nat.testBit_two_pow_sub_one]
    have : k < 64 := by omega
    simp [this]
  rw [h15]
  by_cases h4 : k < 4
  · have e1 : 4 * j + k < 64 := by omega
    have e2 : 4 * j + k < 8 := by omega
    rw [decide_eq_true e1, decide_eq_true e2, Nat.add_assoc]; simp
  · simp [h4]
theorem byte_txt (d : BitVec 64) (i : Nat) (hi : i < 8) : (txt ((byteF d i).setWidth 64)).drop 14 = ((txt d).drop (14 - 2 * i)).take 2 := by
  have hg : ∀ (x : BitVec 64) (k : Nat), k < 16 → (txt x)[k]? = some (chr (digF x k)) := fun x k hk => by
    unfold txt digs; rw [List.getElem?_map, List.getElem?_map, List.getElem?_range hk]; rfl
  apply List.ext_getElem?
  intro k
  rw [List.getElem?_drop, List.getElem?_take]
  by_cases hk : k < 2
  · rw [if_pos hk, List.getElem?_drop, hg _ _ (by omega), hg _ _ (by omega)]
    congr 2
    unfold digF
    have h := nib_byte d i (1 - k) (by omega)
    rw [show 15 - (14 + k) = 1 - k by omega, show 15 - (14 - 2 * i + k) = 2 * i + (1 - k) by omega, h]
    rw [show 8 * i + 4 * (1 - k) = 4 * (2 * i + (1 - k)) by omega]
  · rw [if_neg hk, List.getElem?_eq_none (by rw [txt_len]; omega)]
end Go.Proofs.Ytdoliblcilhneaa
