/- The reference's Decode: bytes that are no encoding; up to the loops. -/
import Derived.Test.YtaoipbndmfjmhaaRjD
import Derived.Test.YtaoipbndmfjmhaaRfF
import Derived.Test.YtaoipbndmfjmhaaRfG
import Derived.Test.YtaoipbndmfjmhaaCut4
namespace Go.Proofs.Ytaoipbndmfjmhaa
open Go.RowKit Go.Joins

set_option maxRecDepth 100000 in
set_option maxHeartbeats 8000000 in
theorem rdecode_bad (A : Option Addr) (cap : Nat) (l : List (BitVec 8)) (hbad : ¬ wfB l) (hlen : l.length ≤ 100000) (w : World) (hl : isB A l w) :
    Calls Try.prog 26 #[.slice A l.length cap] w fun e w' => e = .returned (.tuple #[.agg #[.int .i64 0, .int .u64 0, .int .u64 0, .int .u64 0, .int .u64 0, .int .u64 0, .int .u64 0, .int .u64 0, .int .u64 0, .int .u64 0, .int .u64 0, .int .u64 0, .int .u64 0, .int .u64 0, .int .u64 0, .int .u64 0, .int .u64 0, .int .u64 0, .int .u64 0, .slice none 0 0], .int .i64 60]) ∧ Below w.heap.size w w' := by
  have hzs := zero_sig
  have hi2 : (Try.prog.info? 34).map (·.size) = some (#[.int .i64 0, .int .u64 0, .int .u64 0, .int .u64 0, .int .u64 0, .int .u64 0, .int .u64 0, .int .u64 0, .int .u64 0, .int .u64 0, .int .u64 0, .int .u64 0, .int .u64 0, .int .u64 0, .int .u64 0, .int .u64 0, .int .u64 0, .int .u64 0, .int .u64 0, .slice none 0 0] : Array Value).size := info_sig
  have ho2 : (#[.int .i64 0, .int .u64 0, .int .u64 0, .int .u64 0, .int .u64 0, .int .u64 0, .int .u64 0, .int .u64 0, .int .u64 0, .int .u64 0, .int .u64 0, .int .u64 0, .int .u64 0, .int .u64 0, .int .u64 0, .int .u64 0, .int .u64 0, .int .u64 0, .int .u64 0, .slice none 0 0] : Array Value).all (·.oneCell') = true := by decide +kernel
  obtain ⟨Z, hZ⟩ : ∃ Z, (#[.int .i64 0, .int .u64 0, .int .u64 0, .int .u64 0, .int .u64 0, .int .u64 0, .int .u64 0, .int .u64 0, .int .u64 0, .int .u64 0, .int .u64 0, .int .u64 0, .int .u64 0, .int .u64 0, .int .u64 0, .int .u64 0, .int .u64 0, .int .u64 0, .int .u64 0, .slice none 0 0] : Array Value) = Z := ⟨_, rfl⟩
  rw [hZ] at hzs hi2 ho2 ⊢
  clear hZ
  have hB : Below w.heap.size w (w.alloc (.cells Z 34)) := (Below.refl _ w).alloc (Nat.le_refl _) _
  have b8 : BoxN (w.alloc (.cells Z 34)) w.heap.size 34 Z := BoxN.new w _ _
  go_enter Try.func26, Try.ntmps26
  by_cases hs : l.length < 146
  · generalize l.length = n at *
    have hd : decide ((n : Int) < 146) = true := by simp; omega
    clear hs hbad
    go_wp2_with fail
    go_quiet (fail)
    rename_i nq
    replace b8 := b8.drewN nq
    replace hB := below_drewN hB nq
    generalize (w.alloc (.cells Z 34)).drewN nq = w1 at b8 hB ⊢
    have b8' : w1.heap[w.heap.size]? = some (.cells Z 34 (0, 0)) := b8
    have b2 : BoxN (w1.setRow w.heap.size Z) w.heap.size 34 Z := b8.setRow _
    have hB2 := below_setRow hB (Nat.le_refl w.heap.size) Z
    go_wp2_with (refine wpList_store_rowTo rfl 34 _ _ rfl rfl w.heap.size Z rfl rfl _ Z b8' hi2 rfl ho2 ?_)
    exact bodyPost_ret (v := .tuple #[.agg Z, .int .i64 60]) (results_cell_tmp Try.results26 _ _ w.heap.size _ Z _ rfl b2 Try.underlying34 rfl hi2) rfl ⟨rfl, hB2⟩
  · obtain ⟨a, ha⟩ : ∃ a, l[0]? = some a := ⟨_, List.getElem?_eq_getElem (by omega)⟩
    obtain ⟨b, hb⟩ : ∃ b, l[1]? = some b := ⟨_, List.getElem?_eq_getElem (by omega)⟩
    obtain ⟨bb, off, rfl, hbl, hr⟩ := hl.keep hB (by intro e; rw [e] at ha; simp at ha)
    have c0 := hr 0 _ ha
    have c1 := hr 1 _ hb
    rw [Nat.add_zero] at c0
    obtain ⟨K, hK⟩ : ∃ K, okK (a.toNat : Int) (b.toNat : Int) = K := ⟨_, rfl⟩
    have hbad2 : K = false ∨ l.length ≠ 146 + 8 * b.toNat := by
      cases K with
      | false => exact .inl rfl
      | true => exact .inr fun e => hbad ⟨a, b, ha, hb, hK, e⟩
    have HV : Hid (∀ W : World, Calls Try.prog 19 #[.int .i64 (b.toNat : Nat), .int .i64 (a.toNat : Nat)] W fun e w' => e = .returned (.bool K) ∧ w' = W) := fun W => by
      have := rvalid_any b.toNat a.toNat W
      rwa [hK] at this
    have hal := a.isLt
    have hbl2 := b.isLt
    unfold U8 at c0 c1
    generalize a.toNat = q at *
    generalize b.toNat = h at *
    clear hbad hr hl ha hb hK
    generalize l.length = n at *
    have hd : decide ((n : Int) < 146) = false := by simp; omega
    have hx0 : 0 < n := by omega
    have hx1 : 1 < n := by omega
    have hx0i : (0 : Int) < (n : Int) := by omega
    have hx1i : (1 : Int) < (n : Int) := by omega
    cases K
    all_goals
      try (have hne : ((n : Int) != 146 + 8 * (h : Int)) = true := by
            rcases hbad2 with e | e
            · cases e
            · rw [bne_iff_ne]; omega)
      clear hbad2
      go_wp2_with fail
      go_quiet (first | (go_at_call 19; refine Calls.quiet_of_same (HV.out _)))
      rename_i nq
      replace b8 := b8.drewN nq
      replace hB := below_drewN hB nq
      generalize (w.alloc (.cells Z 34)).drewN nq = w1 at b8 hB ⊢
      have b8' : w1.heap[w.heap.size]? = some (.cells Z 34 (0, 0)) := b8
      have b2 : BoxN (w1.setRow w.heap.size Z) w.heap.size 34 Z := b8.setRow _
      have hB2 := below_setRow hB (Nat.le_refl w.heap.size) Z
      go_wp2_with (refine wpList_store_rowTo rfl 34 _ _ rfl rfl w.heap.size Z rfl rfl _ Z b8' hi2 rfl ho2 ?_)
      exact bodyPost_ret (v := .tuple #[.agg Z, .int .i64 60]) (results_cell_tmp Try.results26 _ _ w.heap.size _ Z _ rfl b2 Try.underlying34 rfl hi2) rfl ⟨rfl, hB2⟩

namespace RDe
set_option maxRecDepth 100000 in
set_option maxHeartbeats 8000000 in
noncomputable def step : Cut4 (∀ (A : Option Addr) (cap m n : Nat) (f : Nat → BitVec 64) (ls : List (BitVec 64)) (_ : ls.length = n) (_ : okK (m : Int) (n : Int) = true) (w : World) (_ : isB A (encB m f ls) w),
    Calls Try.prog 26 #[.slice A (146 + 8 * n) cap] w fun e w' => ∃ G c, e = .returned (.tuple #[.agg (sgA m f (.slice G n c)), .int .i64 0]) ∧ isQ G ls w' ∧ Below w.heap.size w w') := by
  refine ⟨?p1, ?p2, ?p3, ?p4, fun H1 H2 H3 H4 => ?main⟩
  case main =>
    intro A cap m n f ls hn hk w hl
    have hn6 := okK_len hk
    have hm255 : m ≤ 255 := by
      unfold okK at hk
      have h1 := (of_decide_eq_true hk).2.2
      rw [Int.toNat_natCast] at h1
      have h2 : ((2 ^ n : Nat) : Int) = (2 : Int) ^ n := Int.natCast_pow 2 n
      have h3 : 2 ^ n ≤ 2 ^ 6 := Nat.pow_le_pow_right (by decide) hn6
      omega
    have hE : (encB (m : Int) f ls).length = 146 + 8 * n := by rw [encB_len, hn]
    have e0 : (encB (m : Int) f ls)[0]? = some (lo8 m) := rfl
    have e1 : (encB (m : Int) f ls)[1]? = some (lo8 n) := by rw [← hn]; rfl
    have HV : Hid (∀ W : World, Calls Try.prog 19 #[.int .i64 n, .int .i64 m] W fun e w' => e = .returned (.bool true) ∧ w' = W) := fun W => by
      have := rvalid_any n m W
      rwa [hk] at this
    obtain ⟨bb, off, rfl, hbl, hr⟩ := hl (by intro e; rw [e] at hE; simp at hE; omega)
    have HC : Hid (∀ W, Below w.heap.size w W → W.cell? ⟨bb, off, none⟩ = some (.int .u8 (m : Nat)) ∧ W.cell? ⟨bb, off + 1, none⟩ = some (.int .u8 (n : Nat)) ∧ bb < W.heap.size) := fun W h => by
      have b0 : ((lo8 (m : Int)).toNat : Int) = m := lo8_byte (by omega) (by omega)
      have b1 : ((lo8 (n : Int)).toNat : Int) = n := lo8_byte (by omega) (by omega)
      have c0 := (h.cell (p := ⟨bb, off + 0, none⟩) hbl).trans (hr 0 _ e0)
      have c1 := (h.cell (p := ⟨bb, off + 1, none⟩) hbl).trans (hr 1 _ e1)
      unfold U8 at c0 c1
      rw [b0] at c0
      rw [b1] at c1
      exact ⟨c0, c1, Nat.lt_of_lt_of_le hbl h.size⟩
    have HWd : Hid (∀ (i : Nat) (x : BitVec 64) (p : Nat) (W : World), (wds 18 f ++ ls)[i]? = some x → p = 2 + 8 * i → Below w.heap.size w W → Calls Try.prog 49 #[.slice (some ⟨bb, off, none⟩) (146 + 8 * n) cap, .int .i64 p] W fun e w' => e = .returned (U64 x) ∧ w' = W) := fun i x p W hi hp h => by
      have hi24 : i < 18 + n := by
        have := (List.getElem?_eq_some_iff.1 hi).1
        rw [List.length_append, wds_len, hn] at this
        exact this
      refine word_any bb off (146 + 8 * n) cap p x (by omega) (by omega) W fun j hj => ?_
      have h1 := bytesL_get (wds 18 f ++ ls) i j x hi hj
      rw [← encB_drop (m : Int) f ls, List.getElem?_drop] at h1
      have h2 := (h.cell (p := ⟨bb, off + (2 + (i * 8 + j)), none⟩) hbl).trans (hr _ _ h1)
      rwa [show 2 + (i * 8 + j) = p + j by omega] at h2
    have hwf : ∀ k, k < 18 → (wds 18 f ++ ls)[k]? = some (f k) := fun k hk => by
      rw [List.getElem?_append_left (by rw [wds_len]; exact hk)]; exact wds_get _ _ _ hk
    have hwl : ∀ (j : Nat) x, ls[j]? = some x → (wds 18 f ++ ls)[18 + j]? = some x := fun j x hx => by
      rw [List.getElem?_append_right (by rw [wds_len]; omega), wds_len, Nat.add_sub_cancel_left]; exact hx
    have Hwf := Lib.hid hwf
    have Hwl := Lib.hid hwl
    obtain ⟨D, hD⟩ : ∃ D, 146 + 8 * n = D := ⟨_, rfl⟩
    rw [hD] at HWd ⊢
    have HD := Lib.hid hD
    have Hn := Lib.hid hn
    have hd146 : decide ((D : Int) < 146) = false := by simp; omega
    have hx0 : 0 < D := by omega
    have hx1 : 1 < D := by omega
    have hx0i : (0 : Int) < (D : Int) := by omega
    have hx1i : (1 : Int) < (D : Int) := by omega
    have hne : ((D : Int) != 146 + 8 * (n : Int)) = false := by rw [bne_eq_false_iff_eq]; omega
    have hzs := zero_sig
    have eZ := fold_key (m : Int) f
    obtain ⟨Z, hZ⟩ : ∃ Z, (#[.int .i64 0, .int .u64 0, .int .u64 0, .int .u64 0, .int .u64 0, .int .u64 0, .int .u64 0, .int .u64 0, .int .u64 0, .int .u64 0, .int .u64 0, .int .u64 0, .int .u64 0, .int .u64 0, .int .u64 0, .int .u64 0, .int .u64 0, .int .u64 0, .int .u64 0, .slice none 0 0] : Array Value) = Z := ⟨_, rfl⟩
    have hZs : Z.size = 20 := by rw [← hZ]; rfl
    rw [hZ] at hzs eZ
    clear hZ
    obtain ⟨R, hR⟩ : ∃ R : Nat → Array Value, (fun k => sgA (m : Int) (fK f k) (.slice none 0 0)) = R := ⟨_, rfl⟩
    rw [show sgA (m : Int) (fK f 0) (.slice none 0 0) = R 0 from congrFun hR 0] at eZ
    have HR : Hid (∀ k, R k = sgA (m : Int) (fK f k) (.slice none 0 0)) := fun k => (congrFun hR k).symm
    have hRs : (R 0).size = 20 := by rw [HR.out, sgA_size]
    have hiR : (Try.prog.info? 34).map (·.size) = some (R 0).size := by rw [hRs]; exact info_sig
    have hoR : (R 0).all (·.oneCell') = true := by rw [HR.out]; exact sgA_one _ _ _ rfl
    have hsR : Z.size = (R 0).size := by rw [hRs, hZs]
    have hZn : ¬ (Z = #[]) := fun e => by rw [e] at hZs; simp at hZs
    have hZ20 : 0 < Z.size := by omega
    clear hR hwf hwl hl hr hE e0 e1 hk hD hn
    have hB : Below w.heap.size w (w.alloc (.cells Z 34)) := (Below.refl _ w).alloc (Nat.le_refl _) _
    have b8 : BoxN (w.alloc (.cells Z 34)) w.heap.size 34 Z := BoxN.new w _ _
    obtain ⟨c0, c1, hbl2⟩ := HC.out _ hB
    go_enter Try.func26, Try.ntmps26
    go_wp2_with fail
    go_quiet (first | (go_at_call 19; refine Calls.quiet_of_same (HV.out _)))
    rename_i nq
    replace b8 := b8.drewN nq
    replace hB := below_drewN hB nq
    generalize (w.alloc (.cells Z 34)).drewN nq = w1 at b8 hB ⊢
    clear c0 c1 hbl2
    obtain ⟨c0, c1, hbl2⟩ := HC.out _ hB
    have hg1 : w.heap.size < w1.heap.size := b8.lt
    have bN := BoxN.new w1 34 Z
    go_wp2_with (refine wpList_store_rowTo rfl 34 _ _ rfl rfl w1.heap.size (R 0) rfl rfl _ Z bN hiR hsR hoR ?_)
    have bS : BoxN ((w1.alloc (.cells Z 34)).setRow w1.heap.size (R 0)) w1.heap.size 34 (R 0) := bN.setRow _
    have hBy : Below w1.heap.size w1 ((w1.alloc (.cells Z 34)).setRow w1.heap.size (R 0)) := below_setRow ((Below.refl _ w1).alloc (Nat.le_refl _) _) (Nat.le_refl _) (R 0)
    replace b8 := b8.keep hBy
    replace hB := hB.trans (hBy.mono hB.size)
    generalize (w1.alloc (.cells Z 34)).setRow w1.heap.size (R 0) = w2 at b8 bS hB ⊢
    generalize w1.heap.size = gS at bS hg1 ⊢
    clear bN hBy hiR hsR hoR eZ hZ20 c0 c1 hbl2 hne hzs
    go_loopw [5] (fun i wr => ∃ k : Nat, k ≤ 18 ∧ i = .int .i64 k ∧ BoxN wr gS 34 (R k) ∧ BoxN wr w.heap.size 34 Z ∧ Below w.heap.size w wr)
      (fun i _ => (18 - intOf i).toNat)
    case atStart => exact ⟨0, by omega, rfl, bS, b8, hB⟩
    case round =>
      clear bS b8 hB
      obtain ⟨k, hk, rfl, bS, b8, hB⟩ := hrel
      by_cases hlt : k < 18
      · have hd : decide ((k : Int) < 18) = true := by simp; omega
        have hs : Hid ((R k).setIfInBounds (1 + k) (U64 (f k)) = R (k + 1)) := by unfold Hid; rw [HR.out, HR.out]; exact sgA_step (m : Int) f _ k hlt
        have hcS : Hid (∀ W, BoxN W gS 34 (R k) → W.cell? ⟨gS, 1 + k, none⟩ = some (U64 (fK f k k))) := fun W h => by
          rw [h.cell, HR.out, sgA_chain _ _ _ _ hlt]
        obtain ⟨p, hp⟩ : ∃ p, 2 + 8 * k = p := ⟨_, rfl⟩
        have HWk := Lib.hid (HWd.out k (f k) p wr (Hwf.out k hlt) hp.symm hB)
        have e8 : (8 : Int) * (k : Int) = ((8 * k : Nat) : Int) := by omega
        have ep : (2 : Int) + ((8 * k : Nat) : Int) = (p : Int) := by omega
        obtain ⟨p8, hp8⟩ : ∃ p8, 8 * k = p8 := ⟨_, rfl⟩
        rw [hp8] at e8 ep
        have hp8b : p8 ≤ 200 := by omega
        have hpb : p ≤ 300 := by omega
        have hki : (k : Int) < 18 := by omega
        clear hp hp8
        generalize f k = x at *
        generalize fK f k k = x0 at *
        go_wp2_with fail
        (with_reducible refine HWk.out.mono ?_); rintro e w4 ⟨rfl, rfl⟩
        have c0 := hcS.out _ bS
        have f0 := bS.frozen (1 + k)
        have hgl := bS.lt
        go_wp2_with fail
        have b1 := bS.set1 (1 + k) (U64 x)
        rw [hs.out] at b1
        refine ⟨⟨k + 1, by omega, by go_num, b1, b8.far (by simp; omega) _, hB.setCell (by simp; omega) _⟩, ?_⟩
        simp [intOf]; omega
      · obtain rfl : k = 18 := by omega
        have hR18 : R 18 = sgA (m : Int) f (.slice none 0 0) := by rw [HR.out]; exact sgA_congr _ fun i hi => by unfold fK; rw [if_pos hi]
        rw [hR18] at bS
        clear hlt hk hR18 HR
        obtain ⟨Sg, hSg⟩ : ∃ Sg : Value → Array Value, sgA (m : Int) f = Sg := ⟨_, rfl⟩
        rw [hSg] at bS
        have HSg := Lib.hid hSg
        clear hSg
        go_wp2_with fail
        obtain ⟨S, hS⟩ : ∃ S, gS + 1 = S := ⟨_, rfl⟩
        have hSl : S ≤ wr.heap.size := by have := bS.lt; omega
        have hHS : gS < S ∧ w.heap.size < gS := by omega
        go_loopw [6] (fun j wr => ∃ (k : Nat) (G : Option Addr) (c : Nat), k ≤ n ∧ j = .int .i64 k ∧ BoxN wr gS 34 (Sg (.slice G k c)) ∧ wr.ownsRow S 22 1 (.slice G k c) k ((ls.take k).map U64) ∧ S ≤ wr.heap.size ∧ BoxN wr w.heap.size 34 Z ∧ Below w.heap.size w wr)
          (fun j _ => (n - intOf j).toNat)
        case atStart => exact ⟨0, none, 0, by omega, rfl, bS, ⟨rfl, .inl ⟨rfl, rfl⟩⟩, hSl, b8, hB⟩
        case round =>
          clear bS b8 hB hSl
          obtain ⟨k, G, c, hk, rfl, bS, hown, hSl, b8, hB⟩ := hrel
          obtain ⟨c0, c1, hbl2⟩ := HC.out _ hB
          by_cases hlt : k < n
          · have hd : decide (k < n) = true := decide_eq_true hlt
            go_upto_region 11 with fail
            rename_i zrdRound0 zrdRound1 zrdRound2 zrdRound3 zrdRound4 zrdRound5 zrdRound6 zrdRound7 zrdRound8 zrdRound9 zrdRound10
            clear H2 H3 H4
            revert cap m n f ls w hn6 hm255 HV bb off hbl HC Hwf Hwl D HWd HD Hn hd146 hx0 hx1 hx0i hx1i Z hZs R hRs hZn zrdRound0 nq w1 zrdRound1 w2 gS hg1 zrdRound2 u39 u40 u41 u42 u43 u44 u45 u46 u47 u48 u49 u50 Sg HSg zrdRound3 zrdRound4 zrdRound5 zrdRound6 zrdRound7 S hS hHS wr u51 u52 u53 u54 u55 u56 u57 u58 u59 u60 u61 u62 u63 u64 u65 u66 u67 u68 k G c hk bS hown hSl b8 hB c0 c1 hbl2 hlt hd zrdRound8 zrdRound9 zrdRound10
            exact H1.out
          ·
            rename_i zrdEnd0 zrdEnd1 zrdEnd2 zrdEnd3 zrdEnd4 zrdEnd5 zrdEnd6 zrdEnd7
            clear H1 H3 H4
            revert cap m n f ls w hn6 hm255 HV bb off hbl HC Hwf Hwl D HWd HD Hn hd146 hx0 hx1 hx0i hx1i Z hZs R hRs hZn zrdEnd0 nq w1 zrdEnd1 w2 gS hg1 zrdEnd2 u39 u40 u41 u42 u43 u44 u45 u46 u47 u48 u49 u50 Sg HSg zrdEnd3 zrdEnd4 zrdEnd5 zrdEnd6 zrdEnd7 S hS hHS wr u51 u52 u53 u54 u55 u56 u57 u58 u59 u60 u61 u62 u63 u64 u65 u66 u67 u68 k G c hk bS hown hSl b8 hB c0 c1 hbl2 hlt
            exact H2.out
  all_goals exact True
end RDe
end Go.Proofs.Ytaoipbndmfjmhaa
