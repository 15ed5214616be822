/- The reference's Encode. -/
import Derived.Test.YtaoipbndmfjmhaaRfF
import Derived.Test.YtaoipbndmfjmhaaEnc
namespace Go.Proofs.Ytaoipbndmfjmhaa
open Go.RowKit Go.Joins

set_option maxRecDepth 100000 in
set_option maxHeartbeats 2000000 in
theorem rencode_bad (q : Int) (f : Nat → BitVec 64) (G : Option Addr) (n c : Nat) (hk : okK q (n : Int) = false) (w : World) :
    Calls Try.prog 24 #[.agg (sgA q f (.slice G n c))] w fun e w' => e = .returned (.tuple #[.slice none 0 0, .int .i64 2]) ∧ Below w.heap.size w w' := by
  have HV : Hid (∀ W : World, Calls Try.prog 19 #[.int .i64 n, .int .i64 q] W fun e w' => e = .returned (.bool false) ∧ w' = W) := fun W => by
    have := rvalid_any n q W
    rwa [hk] at this
  have c0T : (sgA q f (.slice G n c))[0]? = some (.int .i64 q) := sgA_key _ _ _
  have c19T : (sgA q f (.slice G n c))[19]? = some (.slice G n c) := sgA_path _ _ _
  generalize sgA q f (.slice G n c) = T at *
  have bT := BoxN.new w 34 T
  have hB : Below w.heap.size w (w.alloc (.cells T 34)) := (Below.refl _ w).alloc (Nat.le_refl _) _
  have k0 := bT.cell 0
  have k19 := bT.cell 19
  rw [c0T] at k0
  rw [c19T] at k19
  clear hk
  go_enter Try.func24, Try.ntmps24
  go_wp2_with fail
  (with_reducible refine (HV.out _).mono ?_); rintro e w1 ⟨rfl, rfl⟩
  go_wp2_with fail
  go_ret2
  exact ⟨rfl, hB⟩

set_option maxRecDepth 100000 in
set_option maxHeartbeats 8000000 in
theorem rencode_ok (q : Int) (f : Nat → BitVec 64) (G : Option Addr) (c : Nat) (l : List (BitVec 64)) (hk : okK q (l.length : Int) = true) (w : World) (hl : isQ G l w) :
    Calls Try.prog 24 #[.agg (sgA q f (.slice G l.length c))] w fun e w' => ∃ G' c', e = .returned (.tuple #[.slice G' (146 + 8 * l.length) c', .int .i64 0]) ∧ isB G' (encB q f l) w' ∧ Below w.heap.size w w' := by
  have hn6 := okK_len hk
  have HV : Hid (∀ W : World, Calls Try.prog 19 #[.int .i64 (l.length : Nat), .int .i64 q] W fun e w' => e = .returned (.bool true) ∧ w' = W) := fun W => by
    have := rvalid_any (l.length : Int) q W
    rwa [hk] at this
  have HB : Hid (∀ (x : BitVec 64) (W : World), _) := fun x W => rbytes_any x W
  have IB : Hid (∀ (G : Option Addr) (g k base : Nat) (l : List (BitVec 8)) (W : World), W.ownsRow base 5 1 (.slice G k g) k (cellsB l) → isB G l W) := fun _ _ _ _ _ _ h => isB_of_own h
  have c0T : (sgA q f (.slice G l.length c))[0]? = some (.int .i64 q) := sgA_key _ _ _
  have c19T : (sgA q f (.slice G l.length c))[19]? = some (.slice G l.length c) := sgA_path _ _ _
  have ccT : Hid (∀ k, k < 18 → (sgA q f (.slice G l.length c))[1 + k]? = some (U64 (f k))) := fun k hk => sgA_chain _ _ _ _ hk
  obtain ⟨T, hT⟩ : ∃ T, sgA q f (.slice G l.length c) = T := ⟨_, rfl⟩
  rw [hT] at c0T c19T ccT ⊢
  clear hT
  obtain ⟨F, hF⟩ : ∃ F : Nat → List (BitVec 8), (fun k => [lo8 q, lo8 (l.length : Int)] ++ bytesL (wds k f)) = F := ⟨_, rfl⟩
  have eF : ∀ k, F k = [lo8 q, lo8 (l.length : Int)] ++ bytesL (wds k f) := fun k => (congrFun hF k).symm
  obtain ⟨F2, hF2⟩ : ∃ F2 : Nat → List (BitVec 8), (fun j => F 18 ++ bytesL (l.take j)) = F2 := ⟨_, rfl⟩
  have eF2 : ∀ j, F2 j = F 18 ++ bytesL (l.take j) := fun j => (congrFun hF2 j).symm
  have hst : Hid (∀ k : Nat, F (k + 1) = F k ++ bytes8 (f k)) := fun k => by
    rw [eF, eF, show wds (k + 1) f = wds k f ++ [f k] by simp [wds, List.range_succ], bytesL_snoc, List.append_assoc]
  have hst2 : Hid (∀ (j : Nat) (x : BitVec 64), l[j]? = some x → F2 (j + 1) = F2 j ++ bytes8 x) := fun j x hx => by
    rw [eF2, eF2, take_snoc' hx, bytesL_snoc, List.append_assoc]
  have hF20 : Hid (F2 0 = F 18) := by unfold Hid; rw [eF2]; simp [bytesL]
  have hF0 : Hid (F 0 = [lo8 q, lo8 (l.length : Int)]) := by unfold Hid; rw [eF]; simp [wds, bytesL]
  have hend : Hid (F2 l.length = encB q f l) := by
    unfold Hid encB
    rw [eF2, eF, List.take_of_length_le (Nat.le_refl _)]
  clear eF hF eF2 hF2 hk
  have HL : Hid (∀ W, Below w.heap.size w W → isQ G l W) := fun W h => hl.keep h
  obtain ⟨n, hn⟩ : ∃ n, l.length = n := ⟨_, rfl⟩
  rw [hn] at HV c19T hF0 hend hn6 ⊢
  have Hn := Lib.hid hn
  clear hn hl
  have eq := wrap8 q
  have en := wrap8 (n : Int)
  generalize lo8 q = uq at *
  generalize lo8 (n : Int) = un at *
  have bT := BoxN.new w 34 T
  have hB : Below w.heap.size w (w.alloc (.cells T 34)) := (Below.refl _ w).alloc (Nat.le_refl _) _
  have k0 := bT.cell 0
  have k19 := bT.cell 19
  rw [c0T] at k0
  rw [c19T] at k19
  have C19 : Hid (∀ W, BoxN W w.heap.size 34 T → W.cell? ⟨w.heap.size, 19, none⟩ = some (.slice G n c)) := fun W h => (h.cell 19).trans c19T
  go_enter Try.func24, Try.ntmps24
  go_wp2_with fail
  (with_reducible refine (HV.out _).mono ?_); rintro e w1 ⟨rfl, rfl⟩
  go_wp2_with fail
  have hsz1 : (w.alloc (.cells T 34)).heap.size = w.heap.size + 1 := World.size_alloc _ _
  generalize w.alloc (.cells T 34) = w1 at bT hB k0 k19 hsz1 ⊢
  have hown : (w1.alloc (.cells #[U8 uq, U8 un] 5)).ownsRow (w.heap.size + 1) 5 1 (.slice (some ⟨w1.heap.size, 0, none⟩) 2 2) 2 (cellsB (F 0)) := by
    rw [hF0.out]
    exact World.ownsRow_lit w1 #[U8 uq, U8 un] 2 bT.lt (by decide) rfl
  have hz1w := hB.size
  replace bT := bT.alloc (.cells #[U8 uq, U8 un] 5)
  replace hB := hB.alloc hz1w (.cells #[U8 uq, U8 un] 5)
  generalize w1.alloc (.cells #[U8 uq, U8 un] 5) = w2 at bT hB hown ⊢
  rw [hsz1] at hown
  clear k0 k19 c0T hz1w hsz1
  go_loopw [4, 5] (fun s i wr => ∃ (k : Nat) (G' : Option Addr) (c' m : Nat), k ≤ 18 ∧ m = 2 + 8 * k ∧ i = .int .i64 k ∧ s = .slice G' m c' ∧ wr.ownsRow (w.heap.size + 1) 5 1 (.slice G' m c') m (cellsB (F k)) ∧ BoxN wr w.heap.size 34 T ∧ Below w.heap.size w wr)
    (fun _ i _ => (18 - intOf i).toNat)
  case atStart => exact ⟨0, _, 2, 2, by omega, rfl, rfl, rfl, hown, bT, hB⟩
  case round =>
    clear hB hown bT
    obtain ⟨k, G', c', m, hk, hm, rfl, rfl, hown, bT, hB⟩ := hrel
    have HM := Lib.hid hm
    clear hm
    by_cases hlt : k < 18
    · have hd : decide ((k : Int) < 18) = true := by simp; omega
      have hki : (k : Int) < 18 := by omega
      have ck := bT.cell (1 + k)
      rw [ccT.out k hlt] at ck
      have h8 := bytes8_len (f k)
      have hF1 := hst.out k
      generalize f k = x at *
      go_wp2_with fail
      (with_reducible refine (HB.out _ _).mono ?_); rintro e w3 ⟨G2, c2, rfl, h2, hb2⟩
      replace hown := own_below hown hb2
      replace bT := bT.keep hb2
      replace hB := hB.trans (hb2.mono hB.size)
      have hi2 := IB.out _ _ _ _ _ _ h2
      obtain ⟨m2, hm2⟩ : ∃ m2, m + 8 = m2 := ⟨_, rfl⟩
      have hm4 : m2 ≤ 4096 := by have := HM.out; omega
      have HM2 := Lib.hid hm2
      have hsz : w.heap.size + 1 ≤ w3.heap.size := bT.lt
      generalize bytes8 x = lb at *
      clear hb2 h2 hm2 ck
      go_wp2_with (at_builtin; refine app_arm _ rfl _ _ rfl (w.heap.size + 1) G' m c' (F k) rfl hown G2 8 c2 lb rfl h8 hi2 m2 HM2.out hm4 hsz ?_; intro G3 c3 w4 h3 hb3; have hB3 := hB.trans (hb3.mono (Nat.le_succ _)); have bT3 := BoxN.below bT hb3 (Nat.lt_succ_self _); rw [← hF1] at h3)
      go_roundw
      case rel => exact ⟨k + 1, G3, c3, m2, by omega, by have := HM.out; have := HM2.out; omega, by go_num, rfl, h3, bT3, hB3⟩
      case measure => simp [intOf]; omega
    · obtain rfl : k = 18 := by omega
      obtain rfl : m = 146 := HM.out
      rw [← hF20.out] at hown
      clear hlt hk HM
      go_wp2_with fail
      go_loopw [4, 6] (fun s i wr => ∃ (k : Nat) (G' : Option Addr) (c' m : Nat), k ≤ n ∧ m = 146 + 8 * k ∧ i = .int .i64 k ∧ s = .slice G' m c' ∧ wr.ownsRow (w.heap.size + 1) 5 1 (.slice G' m c') m (cellsB (F2 k)) ∧ BoxN wr w.heap.size 34 T ∧ Below w.heap.size w wr)
        (fun _ i _ => (n - intOf i).toNat)
      case atStart => exact ⟨0, G', c', 146, by omega, rfl, rfl, rfl, hown, bT, hB⟩
      case round =>
        clear hB hown bT
        obtain ⟨k, G', c', m, hk, hm, rfl, rfl, hown, bT, hB⟩ := hrel
        have HM := Lib.hid hm
        clear hm
        have k19 := C19.out _ bT
        by_cases hlt : k < n
        · have hd : decide (k < n) = true := decide_eq_true hlt
          have hki : (k : Int) < n := by omega
          have hgk : l[k]? = some (l[k]'(by have := Hn.out; omega)) := List.getElem?_eq_getElem _
          obtain ⟨x, hx⟩ : ∃ x, l[k]'(by have := Hn.out; omega) = x := ⟨_, rfl⟩
          rw [hx] at hgk
          obtain ⟨b, off, hGe, hbl, hr⟩ := HL.out _ hB (by intro e; rw [e] at hgk; simp at hgk)
          have ck := hr k x hgk
          have h8 := bytes8_len x
          have hF1 := hst2.out k x hgk
          have HGe := Lib.hid hGe
          rw [hGe] at k19
          clear hr hx hgk hGe
          go_wp2_with fail
          (with_reducible refine (HB.out _ _).mono ?_); rintro e w3 ⟨G2, c2, rfl, h2, hb2⟩
          replace hown := own_below hown hb2
          replace bT := bT.keep hb2
          replace hB := hB.trans (hb2.mono hB.size)
          have hi2 := IB.out _ _ _ _ _ _ h2
          obtain ⟨m2, hm2⟩ : ∃ m2, m + 8 = m2 := ⟨_, rfl⟩
          have hm4 : m2 ≤ 4096 := by have := HM.out; omega
          have HM2 := Lib.hid hm2
          have hsz : w.heap.size + 1 ≤ w3.heap.size := bT.lt
          generalize bytes8 x = lb at *
          clear hb2 h2 hm2 ck k19
          go_wp2_with (at_builtin; refine app_arm _ rfl _ _ rfl (w.heap.size + 1) G' m c' (F2 k) rfl hown G2 8 c2 lb rfl h8 hi2 m2 HM2.out hm4 hsz ?_; intro G3 c3 w4 h3 hb3; have hB3 := hB.trans (hb3.mono (Nat.le_succ _)); have bT3 := BoxN.below bT hb3 (Nat.lt_succ_self _); rw [← hF1] at h3)
          go_roundw
          case rel =>
            repeat apply Exists.intro
            refine ⟨?_, rfl⟩
            exact ⟨k + 1, G3, c3, m2, by omega, by have := HM.out; have := HM2.out; omega, by go_num, rfl, h3, bT3, hB3⟩
          case measure => simp [intOf]; omega
        · obtain rfl : k = n := by omega
          have hd : decide (k < k) = false := by simp
          have hi := IB.out _ _ _ _ _ _ hown
          rw [hend.out] at hi
          obtain rfl : m = 146 + 8 * k := HM.out
          clear hown hlt
          go_wp2_with fail
          go_ret2
          first | exact ⟨G', c', rfl, hi, hB⟩ | exact ⟨G', ⟨c', rfl⟩, hi, hB⟩
end Go.Proofs.Ytaoipbndmfjmhaa
