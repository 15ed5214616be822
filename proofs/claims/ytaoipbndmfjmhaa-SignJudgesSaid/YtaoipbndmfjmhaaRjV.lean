/- The reference's Verify. -/
import Derived.Test.YtaoipbndmfjmhaaRfC
import Derived.Test.YtaoipbndmfjmhaaRfF
import Derived.Test.YtaoipbndmfjmhaaVer
import Derived.Test.YtaoipbndmfjmhaaCut4
namespace Go.Proofs.Ytaoipbndmfjmhaa
open Go.RowKit Go.Joins

set_option maxRecDepth 100000 in
set_option maxHeartbeats 2000000 in
theorem rverify_no (root d : BitVec 64) (h q : Int) (f : Nat → BitVec 64) (G : Option Addr) (n c : Nat) (hno : okK q h = false ∨ (n : Int) ≠ h) (w : World) :
    Calls Try.prog 28 #[U64 root, .int .i64 h, U64 d, .agg (sgA q f (.slice G n c))] w fun e w' => e = .returned (.bool false) ∧ Below w.heap.size w w' := by
  obtain ⟨K, hK⟩ : ∃ K, okK q h = K := ⟨_, rfl⟩
  have HV : Hid (∀ W : World, Calls Try.prog 19 #[.int .i64 h, .int .i64 q] W fun e w' => e = .returned (.bool K) ∧ w' = W) := fun W => by
    have := rvalid_any h q W
    rwa [hK] at this
  rw [hK] at hno
  have c0T : (sgA q f (.slice G n c))[0]? = some (.int .i64 q) := sgA_key _ _ _
  have c19T : (sgA q f (.slice G n c))[19]? = some (.slice G n c) := sgA_path _ _ _
  generalize sgA q f (.slice G n c) = T at *
  have bT := BoxN.new w 34 T
  have hB : Below w.heap.size w (w.alloc (.cells T 34)) := (Below.refl _ w).alloc (Nat.le_refl _) _
  have k0 := bT.cell 0
  have k19 := bT.cell 19
  rw [c0T] at k0
  rw [c19T] at k19
  clear hK
  go_enter Try.func28, Try.ntmps28
  cases K with
  | false =>
    clear hno
    go_wp2_with fail
    (with_reducible refine (HV.out _).mono ?_); rintro e w1 ⟨rfl, rfl⟩
    go_wp2_with fail
    go_ret
    exact ⟨rfl, hB⟩
  | true =>
    have hne : ((n : Int) != h) = true := by
      rcases hno with e | e
      · cases e
      · rw [bne_iff_ne]; exact e
    clear hno
    go_wp2_with fail
    (with_reducible refine (HV.out _).mono ?_); rintro e w1 ⟨rfl, rfl⟩
    go_wp2_with fail
    go_ret
    exact ⟨rfl, hB⟩

namespace RVf
set_option maxRecDepth 100000 in
set_option maxHeartbeats 8000000 in
noncomputable def step : Cut4 (∀ (root d : BitVec 64) (h q : Nat) (f : Nat → BitVec 64) (G : Option Addr) (c : Nat) (l : List (BitVec 64)) (_ : l.length = h) (_ : h ≤ 6) (_ : q < 2 ^ h) (w : World) (_ : isQ G l w),
    Calls Try.prog 28 #[U64 root, .int .i64 h, U64 d, .agg (sgA q f (.slice G h c))] w fun e w' => e = .returned (.bool (decide (verV q d f l = root))) ∧ Below w.heap.size w w') := by
  refine ⟨?p1, ?p2, ?p3, ?p4, fun H1 H2 H3 H4 => ?main⟩
  case main =>
    intro root d h q f G c l hlen hh hq w hl
    have HV : Hid (∀ W : World, Calls Try.prog 19 #[.int .i64 h, .int .i64 q] W fun e w' => e = .returned (.bool true) ∧ w' = W) := fun W => by
      have := rvalid_any h q W
      rwa [show okK (q : Int) (h : Int) = true by
        unfold okK; rw [Int.toNat_natCast]
        have : ((2 ^ h : Nat) : Int) = (2 : Int) ^ h := Int.natCast_pow 2 h
        simp; omega] at this
    have HD : Hid (∀ W : World, _) := fun W => rdigits_any d W
    have HDg : Hid (∀ k, k < 18 → (rowI (digN d) 18)[k]? = some (.int .i64 (digN d k))) := fun k hk => rowI_get _ _ _ hk
    have HAd : Hid (∀ (k : Nat) (W : World), Calls Try.prog 51 #[.int .i64 k, .int .i64 (digN d k), .int .i64 15, U64 (f k)] W fun e w' => e = .returned (U64 (advTo k (digN d k) 15 (f k))) ∧ Below W.heap.size W w') := fun k W => radv_any k (digN d k) 15 (by decide) (f k) W
    have HBy : Hid (∀ (x : BitVec 64) (W : World), _) := fun x W => rbytes_any x W
    have hTi : (Try.prog.info? 24).map (·.size) = some (rowI (digN d) 18).size := by rw [rowI_size]; exact info_tI
    have hTo := rowI_one (digN d) 18
    have hTs : (rowI (digN d) 18).size = 18 := rowI_size _ _
    have hzi := zero_tI fun _ => .int .i64 0
    obtain ⟨O, hO⟩ : ∃ O, parV 18 (fun _ => Value.int .i64 0) (.int .i64 0) 0 = O := ⟨_, rfl⟩
    have hOs : O.size = 18 := by rw [← hO, parV_size]
    rw [hO] at hzi
    clear hO
    generalize rowI (digN d) 18 = R at *
    have hsT : O.size = R.size := by rw [hOs, hTs]
    have HPR : Hid (∀ (a b : BitVec 64) (W : World), _) := fun a b W => rpair_n a b (pr a b) rfl W
    obtain ⟨v, hv⟩ : ∃ v : Nat → BitVec 64, (fun k => advTo k (digN d k) 15 (f k)) = v := ⟨_, rfl⟩
    have ev : ∀ k, advTo k (digN d k) 15 (f k) = v k := fun k => congrFun hv k
    have hver : verV q d f l = climb q 0 l (pubV v) := by unfold verV; rw [← hv]
    rw [hver]
    simp only [ev] at HAd
    obtain ⟨F, hF⟩ : ∃ F : Nat → List (BitVec 8), (fun k => bytesL (wds k v)) = F := ⟨_, rfl⟩
    have eF : ∀ k, F k = bytesL (wds k v) := fun k => (congrFun hF k).symm
    have hst : Hid (∀ k : Nat, F (k + 1) = F k ++ bytes8 (v k)) := fun k => by
      rw [eF, eF, show wds (k + 1) v = wds k v ++ [v k] by simp [wds, List.range_succ], bytesL_snoc]
    have HO : Hid (∀ (G : Option Addr) (c : Nat) (W : World), isB G (F 18) W → Calls Try.prog 35 #[.slice G 144 c] W fun e w' => e = .returned (U64 (pubV v)) ∧ w' = W) := fun G c W h =>
      rof_n (cap := c) 144 (by rw [eF, bytesL_len, wds_len]) _ (by rw [eF]; rfl) (by decide) W h
    have hF0 : F 0 = [] := by rw [eF]; rfl
    generalize pubV v = P0 at *
    have HF0 := Lib.hid hF0
    have hq64 : q < 64 := Nat.lt_of_lt_of_le hq (Nat.le_trans (Nat.pow_le_pow_right (by decide) hh) (by decide))
    clear hver ev eF hF hv hF0 hq
    have c0T : (sgA (q : Int) f (.slice G h c))[0]? = some (.int .i64 q) := sgA_key _ _ _
    have c19T : (sgA (q : Int) f (.slice G h c))[19]? = some (.slice G h c) := sgA_path _ _ _
    have ccT : Hid (∀ k, k < 18 → (sgA (q : Int) f (.slice G h c))[1 + k]? = some (U64 (f k))) := fun k hk => sgA_chain _ _ _ _ hk
    generalize sgA (q : Int) f (.slice G h c) = T at *
    have bT := BoxN.new w 34 T
    have hB : Below w.heap.size w (w.alloc (.cells T 34)) := (Below.refl _ w).alloc (Nat.le_refl _) _
    have k0 := bT.cell 0
    have k19 := bT.cell 19
    rw [c0T] at k0
    rw [c19T] at k19
    have HL : Hid (∀ W, Below w.heap.size w W → isQ G l W) := fun W h => hl.keep h
    have Hlen := Lib.hid hlen
    have hhh : ((h : Int) != (h : Int)) = false := by simp
    go_enter Try.func28, Try.ntmps28
    go_wp2_with fail
    (with_reducible refine (HV.out _).mono ?_); rintro e w1 ⟨rfl, rfl⟩
    go_wp2_with fail
    generalize w.alloc (.cells T 34) = w1 at bT hB k0 k19 ⊢
    clear k0 k19 hl hlen
    (with_reducible refine (HD.out _).mono ?_); rintro e w2 ⟨rfl, hb1⟩
    replace bT := bT.keep hb1
    replace hB := hB.trans (hb1.mono hB.size)
    clear hb1
    have bO := BoxN.new w2 24 O
    have bR : BoxN ((w2.alloc (.cells O 24)).setRow w2.heap.size R) w2.heap.size 24 R := bO.setRow _
    have hBy : Below w2.heap.size w2 ((w2.alloc (.cells O 24)).setRow w2.heap.size R) := below_setRow ((Below.refl _ w2).alloc (Nat.le_refl _) _) (Nat.le_refl _) R
    have hgD : w.heap.size < w2.heap.size := bT.lt
    replace bT := bT.keep hBy
    replace hB := hB.trans (hBy.mono hB.size)
    go_wp2_with (refine wpList_store_rowTo rfl 24 _ _ rfl rfl w2.heap.size R rfl rfl _ O bO hTi hsT hTo ?_)
    generalize (w2.alloc (.cells O 24)).setRow w2.heap.size R = w3 at bT bR hB ⊢
    generalize w2.heap.size = gD at bR hgD ⊢
    clear bO hBy hTi hTo hTs hsT hzi hOs
    obtain ⟨S, hS⟩ : ∃ S, gD + 1 = S := ⟨_, rfl⟩
    have hown : w3.ownsRow S 5 1 (.slice none 0 0) 0 (cellsB (F 0)) := by rw [HF0.out]; exact ⟨rfl, .inl ⟨rfl, rfl⟩⟩
    have HS := Lib.hid hS
    clear hS
    go_loopw [9, 11] (fun s i wr => ∃ (k : Nat) (G' : Option Addr) (c' m : Nat), k ≤ 18 ∧ m = 8 * k ∧ i = .int .i64 k ∧ s = .slice G' m c' ∧ wr.ownsRow S 5 1 (.slice G' m c') m (cellsB (F k)) ∧ BoxN wr w.heap.size 34 T ∧ BoxN wr gD 24 R ∧ Below w.heap.size w wr)
      (fun _ i _ => (18 - intOf i).toNat)
    case atStart => exact ⟨0, none, 0, 0, by omega, rfl, rfl, rfl, hown, bT, bR, hB⟩
    case round =>
      clear hB hown bT bR
      obtain ⟨k, G', c', m, hk, hm, rfl, rfl, hown, bT, bR, hB⟩ := hrel
      have HM := Lib.hid hm
      clear hm
      by_cases hlt : k < 18
      · have hd : decide ((k : Int) < 18) = true := by simp; omega
        go_upto_region 8 with fail
        rename_i zrvRound0 zrvRound1 zrvRound2 zrvRound3 zrvRound4 zrvRound5
        clear H2 H3 H4
        revert root d h q f G c l hh w HV HBy O R HD HDg HPR v HAd F hst P0 HO HF0 hq64 T c0T c19T ccT HL Hlen hhh zrvRound0 w1 w2 zrvRound1 zrvRound2 w3 gD hgD S HS wr u29 u30 u31 u32 u33 u34 u35 u36 u37 u38 u39 u40 u41 u42 u43 u44 k G' c' m hk hown bT bR hB HM hlt hd zrvRound3 zrvRound4 zrvRound5
        exact H1.out
      · obtain rfl : k = 18 := by omega
        obtain rfl : m = 144 := HM.out
        have hi : isB G' (F 18) wr := isB_of_own hown
        have k0 := bT.cell 0
        rw [c0T] at k0
        clear hown hlt hk HM bR
        go_wp2_with fail
        (with_reducible refine (HO.out _ _ _ hi).mono ?_); rintro e w5 ⟨rfl, rfl⟩
        go_wp2_with fail
        clear hi k0
        go_loopw [12, 13, 14] (fun x kk j wr => ∃ (n kq : Nat) (z : BitVec 64), n ≤ h ∧ kq = q / 2 ^ n ∧ z = climb q 0 (l.take n) P0 ∧ j = .int .i64 n ∧ kk = .int .i64 kq ∧ x = U64 z ∧ BoxN wr w.heap.size 34 T ∧ Below w.heap.size w wr)
          (fun _ _ j _ => (h - intOf j).toNat)
        case atStart => exact ⟨0, q, P0, by omega, by simp, by simp [climb], rfl, rfl, rfl, bT, hB⟩
        case round =>
          clear bT hB
          obtain ⟨n, kq, z, hn, hkq, hz, rfl, rfl, rfl, bT, hB⟩ := hrel
          have hkl : kq < 64 := by rw [hkq]; exact Nat.lt_of_le_of_lt (Nat.div_le_self _ _) hq64
          have HKq := Lib.hid hkq
          have HZ := Lib.hid hz
          clear hkq hz
          have k19 := bT.cell 19
          rw [c19T] at k19
          by_cases hlt : n < h
          · have hd : decide (n < h) = true := decide_eq_true hlt
            have hki : (n : Int) < h := by omega
            have hgk : l[n]? = some (l[n]'(by have := Hlen.out; omega)) := List.getElem?_eq_getElem _
            obtain ⟨x, hx⟩ : ∃ x, l[n]'(by have := Hlen.out; omega) = x := ⟨_, rfl⟩
            rw [hx] at hgk
            obtain ⟨b, off, hGe, hbl, hr⟩ := HL.out _ hB (by intro e; rw [e] at hgk; simp at hgk)
            have ck := hr n x hgk
            have hcl : climb q 0 (l.take (n + 1)) P0 = (if q / 2 ^ n % 2 = 0 then pr (climb q 0 (l.take n) P0) x else pr x (climb q 0 (l.take n) P0)) := by
              have h1 := climb_snoc q (l.take n) 0 x P0
              rw [show l.take n ++ [x] = l.take (n + 1) from (take_snoc' hgk).symm, List.length_take, Nat.min_eq_left (by have := Hlen.out; omega), Nat.zero_add] at h1
              exact h1
            rw [← HZ.out, ← HKq.out] at hcl
            have HCl := Lib.hid hcl
            have hd2 : (kq : Int).tdiv 2 = ((kq / 2 : Nat) : Int) := by rw [Int.tdiv_eq_ediv_of_nonneg (Int.natCast_nonneg kq)]; omega
            have hd3 : (kq : Int) / 2 = ((kq / 2 : Nat) : Int) := by omega
            obtain ⟨m2, hm2⟩ : ∃ m2, kq / 2 = m2 := ⟨_, rfl⟩
            rw [hm2] at hd2 hd3
            have Hm2 := Lib.hid hm2
            have hm2l : m2 < 64 := by omega
            rw [hGe] at k19
            clear hm2 hcl hr hx hgk hGe
            by_cases hpar : kq % 2 = 0
            · have e2 : ((kq : Int) % 2 == 0) = true := by rw [beq_iff_eq]; omega
              have e3 : ((kq : Int).tmod 2 == 0) = true := by rw [Int.tmod_eq_emod_of_nonneg (Int.natCast_nonneg kq)]; exact e2
              have hc2 : Hid (climb q 0 (l.take (n + 1)) P0 = pr z x) := by unfold Hid; rw [HCl.out, if_pos hpar]
              clear hpar
              go_wp2_with fail
              (with_reducible refine (HPR.out _ _ _).mono ?_); rintro e w6 ⟨rfl, hb1⟩
              replace bT := bT.keep hb1
              replace hB := hB.trans (hb1.mono hB.size)
              clear hb1 k19 ck hbl
              generalize pr z x = y at *
              go_wp2_with fail
              go_roundw
              case rel => exact ⟨n + 1, m2, y, Nat.succ_le_of_lt hlt, by rw [← Hm2.out, HKq.out, Nat.div_div_eq_div_mul, Nat.pow_succ], hc2.out.symm, by go_num, by first | rfl | (have := Hm2.out; go_num), rfl, bT, hB⟩
              case measure => simp [intOf]; omega
            · have e2 : ((kq : Int) % 2 == 0) = false := by rw [beq_eq_false_iff_ne]; omega
              have e3 : ((kq : Int).tmod 2 == 0) = false := by rw [Int.tmod_eq_emod_of_nonneg (Int.natCast_nonneg kq)]; exact e2
              have hc2 : Hid (climb q 0 (l.take (n + 1)) P0 = pr x z) := by unfold Hid; rw [HCl.out, if_neg hpar]
              clear hpar
              go_wp2_with fail
              (with_reducible refine (HPR.out _ _ _).mono ?_); rintro e w6 ⟨rfl, hb1⟩
              replace bT := bT.keep hb1
              replace hB := hB.trans (hb1.mono hB.size)
              clear hb1 k19 ck hbl
              generalize pr x z = y at *
              go_wp2_with fail
              go_roundw
              case rel => exact ⟨n + 1, m2, y, Nat.succ_le_of_lt hlt, by rw [← Hm2.out, HKq.out, Nat.div_div_eq_div_mul, Nat.pow_succ], hc2.out.symm, by go_num, by first | rfl | (have := Hm2.out; go_num), rfl, bT, hB⟩
              case measure => simp [intOf]; omega
          · obtain rfl : n = h := by omega
            have hd : decide (n < n) = false := by simp
            have hzl : Hid (decide (climb q 0 l P0 = root) = decide (z = root)) := by
              unfold Hid
              rw [HZ.out, List.take_of_length_le (by have := Hlen.out; omega)]
            have heq : ((z.toNat : Int) == (root.toNat : Int)) = decide (z = root) := beq_bv z root
            clear hlt k19
            go_wp2_with fail
            go_ret
            exact ⟨by rw [hzl.out, ← heq]; rfl, hB⟩
  all_goals exact True
end RVf
end Go.Proofs.Ytaoipbndmfjmhaa
