/- The reference's Value and Public. -/
import Derived.Test.YtaoipbndmfjmhaaRfD
namespace Go.Proofs.Ytaoipbndmfjmhaa
open Go.RowKit Go.Joins

set_option maxRecDepth 100000 in
set_option maxHeartbeats 1000000 in
theorem rval_any (seed : BitVec 64) (q : Int) (i n : Nat) (hn : n ≤ 1000) (w : World) :
    Calls Try.prog 41 #[U64 seed, .int .i64 q, .int .i64 i, .int .i64 n] w fun e w' => e = .returned (U64 (val seed q i n)) ∧ Below w.heap.size w w' := by
  have HB : Hid (∀ W : World, _) := fun W => rbytes_any seed W
  have HO : Hid (∀ (G : Option Addr) (c : Nat) (W : World), isB G (bytes8 seed ++ [lo8 q, lo8 (q / 256), lo8 i]) W → Calls Try.prog 35 #[.slice G 11 c] W fun e w' => e = .returned (U64 (secr seed q i)) ∧ w' = W) := fun G c W h =>
    rof_n (cap := c) 11 (by rw [List.length_append, bytes8_len]; rfl) _ rfl (by decide) W h
  have HA : Hid (∀ W : World, Calls Try.prog 51 #[.int .i64 i, .int .i64 0, .int .i64 n, U64 (secr seed q i)] W fun e w' => e = .returned (U64 (val seed q i n)) ∧ Below W.heap.size W w') := fun W => radv_any i 0 n hn (secr seed q i) W
  have IB : Hid (∀ (G : Option Addr) (g k base : Nat) (l : List (BitVec 8)) (W : World), W.ownsRow base 5 1 (.slice G k g) k (cellsB l) → isB G l W) := fun _ _ _ _ _ _ h => isB_of_own h
  have hlit : Hid (∀ W : World, isB (some ⟨W.heap.size, 0, none⟩) [lo8 q, lo8 (q / 256), lo8 (i : Int)] (W.alloc (.cells #[U8 (lo8 q), U8 (lo8 (q / 256)), U8 (lo8 (i : Int))] 5))) := fun W => isB_lit W _ _ rfl
  generalize secr seed q i = s at *
  generalize val seed q i n = r at *
  generalize bytes8 seed = lb at *
  have eq := wrap8 q
  have eq2 := wrap8 (q / 256)
  have ei := wrap8 (i : Int)
  generalize lo8 q = uq at *
  generalize lo8 (q / 256) = uq2 at *
  generalize lo8 (i : Int) = ui at *
  go_enter Try.func41, Try.ntmps41
  go_wp2_with fail
  (with_reducible refine (HB.out _).mono ?_); rintro e w1 ⟨G1, c1, rfl, h1, hb1⟩
  have hi1 := hlit.out w1
  have h1a := h1.alloc (.cells #[U8 uq, U8 uq2, U8 ui] 5)
  have hB1 := hb1.alloc hb1.size (.cells #[U8 uq, U8 uq2, U8 ui] 5)
  clear hb1 h1
  have hz1 := hB1.size
  go_wp2_with (at_builtin; refine app_arm _ rfl _ _ rfl w.heap.size G1 8 c1 lb rfl h1a (some ⟨w1.heap.size, 0, none⟩) 3 3 [uq, uq2, ui] rfl rfl hi1 11 rfl (by omega) hz1 ?_; intro G3 c3 w3 h3 hb3; have hB3 := hB1.trans hb3; have hi3 := IB.out _ _ _ _ _ _ h3)
  clear h1a h3 hi1 hb3 hB1
  (with_reducible refine (HO.out _ _ _ hi3).mono ?_); rintro e w4 ⟨rfl, rfl⟩
  go_wp2_with fail
  (with_reducible refine (HA.out _).mono ?_); rintro e w5 ⟨rfl, hb5⟩
  replace hB3 := hB3.trans (hb5.mono hB3.size)
  clear hb5
  go_wp2_with fail
  go_ret
  exact ⟨rfl, hB3⟩

set_option maxRecDepth 100000 in
set_option maxHeartbeats 1000000 in
theorem rpub_any (seed : BitVec 64) (q : Int) (w : World) :
    Calls Try.prog 16 #[U64 seed, .int .i64 q] w fun e w' => e = .returned (U64 (pubK seed q)) ∧ Below w.heap.size w w' := by
  obtain ⟨v, hv⟩ : ∃ v : Nat → BitVec 64, (fun i => val seed q i 15) = v := ⟨_, rfl⟩
  have HV : Hid (∀ (k : Nat) (W : World), Calls Try.prog 41 #[U64 seed, .int .i64 q, .int .i64 k, .int .i64 15] W fun e w' => e = .returned (U64 (v k)) ∧ Below W.heap.size W w') := fun k W => by rw [← hv]; exact rval_any seed q k 15 (by decide) W
  have hp : pubK seed q = pubV v := by rw [← hv]; rfl
  rw [hp]
  clear hv hp
  obtain ⟨F, hF⟩ : ∃ F : Nat → List (BitVec 8), (fun k => bytesL (wds k v)) = F := ⟨_, rfl⟩
  have eF : ∀ k, F k = bytesL (wds k v) := fun k => (congrFun hF k).symm
  have HB : Hid (∀ (x : BitVec 64) (W : World), _) := fun x W => rbytes_any x W
  have HO : Hid (∀ (G : Option Addr) (c : Nat) (W : World), isB G (F 18) W → Calls Try.prog 35 #[.slice G 144 c] W fun e w' => e = .returned (U64 (pubV v)) ∧ w' = W) := fun G c W h =>
    rof_n (cap := c) 144 (by rw [eF, bytesL_len, wds_len]) _ (by rw [eF]; rfl) (by decide) W h
  have IB : Hid (∀ (G : Option Addr) (g k base : Nat) (l : List (BitVec 8)) (W : World), W.ownsRow base 5 1 (.slice G k g) k (cellsB l) → isB G l W) := fun _ _ _ _ _ _ h => isB_of_own h
  have hst : Hid (∀ k : Nat, F (k + 1) = F k ++ bytes8 (v k)) := fun k => by
    rw [eF, eF, show wds (k + 1) v = wds k v ++ [v k] by simp [wds, List.range_succ], bytesL_snoc]
  have hl8 : Hid (∀ k : Nat, (bytes8 (v k)).length = 8) := fun k => bytes8_len _
  have ho0 : w.ownsRow w.heap.size 5 1 (.slice none 0 0) 0 (cellsB (F 0)) := by rw [eF]; exact ⟨rfl, .inl ⟨rfl, rfl⟩⟩
  have hB0 := Below.refl w.heap.size w
  generalize pubV v = r at *
  clear eF hF
  go_enter Try.func16, Try.ntmps16
  go_wp2_with fail
  go_loopw [5, 6] (fun s i wr => ∃ (k : Nat) (G : Option Addr) (c m : Nat), k ≤ 18 ∧ m = 8 * k ∧ i = .int .i64 k ∧ s = .slice G m c ∧ wr.ownsRow w.heap.size 5 1 (.slice G m c) m (cellsB (F k)) ∧ Below w.heap.size w wr)
    (fun _ i _ => (18 - intOf i).toNat)
  case atStart => exact ⟨0, none, 0, 0, by omega, rfl, rfl, rfl, ho0, hB0⟩
  case round =>
    clear hB0 ho0
    obtain ⟨k, G, c, m, hk, hm, rfl, rfl, hown, hB⟩ := hrel
    have HM := Lib.hid hm
    clear hm
    by_cases hlt : k < 18
    · have hd : decide ((k : Int) < 18) = true := by simp; omega
      go_wp2_with fail
      (with_reducible refine (HV.out _ _).mono ?_); rintro e w1 ⟨rfl, hb1⟩
      replace hown := own_below hown hb1
      replace hB := hB.trans (hb1.mono hB.size)
      clear hb1
      go_wp2_with fail
      (with_reducible refine (HB.out _ _).mono ?_); rintro e w2 ⟨G2, c2, rfl, h2, hb2⟩
      replace hown := own_below hown hb2
      replace hB := hB.trans (hb2.mono hB.size)
      have hi2 := IB.out _ _ _ _ _ _ h2
      have h8 := hl8.out k
      have hsz := hB.size
      obtain ⟨m2, hm2⟩ : ∃ m2, m + 8 = m2 := ⟨_, rfl⟩
      have hm4 : m2 ≤ 4096 := by have := HM.out; omega
      have HM2 := Lib.hid hm2
      have hF1 := hst.out k
      generalize bytes8 (v k) = lb at *
      clear hb2 h2 hm2
      go_wp2_with (at_builtin; refine app_arm _ rfl _ _ rfl w.heap.size G m c (F k) rfl hown G2 8 c2 lb rfl h8 hi2 m2 HM2.out hm4 hsz ?_; intro G3 c3 w3 h3 hb3; have hB3 := hB.trans hb3; rw [← hF1] at h3)
      go_roundw
      case rel => exact ⟨k + 1, G3, c3, m2, by omega, by have := HM.out; have := HM2.out; omega, by go_num, rfl, h3, hB3⟩
      case measure => simp [intOf]; omega
    · obtain rfl : k = 18 := by omega
      obtain rfl : m = 144 := HM.out
      have hi := IB.out _ _ _ _ _ _ hown
      clear hown
      go_wp2_with fail
      (with_reducible refine (HO.out _ _ _ hi).mono ?_); rintro e w1 ⟨rfl, rfl⟩
      go_wp2_with fail
      go_ret
      exact ⟨rfl, hB⟩
end Go.Proofs.Ytaoipbndmfjmhaa
