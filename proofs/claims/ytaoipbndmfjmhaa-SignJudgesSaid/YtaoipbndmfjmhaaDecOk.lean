/- The contract of Decode of an encoding. -/
import Derived.Test.YtaoipbndmfjmhaaDec
namespace Go.Proofs.Ytaoipbndmfjmhaa
open Go.RowKit Go.Joins

theorem fold_dec (q : Int) (f : Nat → BitVec 64) (G : Option Addr) (n c : Nat) : ((#[.int .i64 0, .int .u64 0, .int .u64 0, .int .u64 0, .int .u64 0, .int .u64 0, .int .u64 0, .int .u64 0, .int .u64 0, .int .u64 0, .int .u64 0, .int .u64 0, .int .u64 0, .int .u64 0, .int .u64 0, .int .u64 0, .int .u64 0, .int .u64 0, .int .u64 0, .slice none 0 0] : Array Value).setIfInBounds 0 (.int .i64 q)).setIfInBounds 19 (.slice G n c) = sgA q (fK f 0) (.slice G n c) := by kernel_rfl

set_option maxRecDepth 100000 in
set_option maxHeartbeats 4000000 in
theorem decode_ok (A : Option Addr) (cap : Nat) (q : Nat) (f : Nat → BitVec 64) (ls : List (BitVec 64)) (hk : okK q (ls.length : Int) = true) (hcap : 146 + 8 * ls.length ≤ cap) (w : World) (hl : isB A (encB q f ls) w) :
    Calls Try.prog 25 #[.slice A (146 + 8 * ls.length) cap] w fun e w' => ∃ G c, e = .returned (.tuple #[.agg (sgA q f (.slice G ls.length c)), .int .i64 0]) ∧ isQ G ls w' ∧ Below w.heap.size w w' := by
  have hh := okK_len hk
  have hq : q < 64 := by
    have h1 : q < 2 ^ ls.length := by
      unfold okK at hk
      have := (of_decide_eq_true hk).2.2
      rw [Int.toNat_natCast] at this
      exact_mod_cast this
    have h2 : 2 ^ ls.length ≤ 2 ^ 6 := Nat.pow_le_pow_right (by decide) hh
    omega
  have h0 := encB_get0 (q : Int) f ls
  have h1 := encB_get1 (q : Int) f ls
  have hHl : (encB (q : Int) f ls).length = 146 + 8 * ls.length := encB_len _ _ _
  obtain ⟨h, eh⟩ : ∃ h, ls.length = h := ⟨_, rfl⟩
  rw [eh] at hk hcap hh h1 hHl ⊢
  have HK : Hid (∀ W : World, Calls Try.prog 44 #[.int .i64 q, .int .i64 h] W fun e w' => e = .returned (.bool true) ∧ Below W.heap.size W w') := fun W => by
    have := isKey_any q h W
    rwa [hk] at this
  have hzs := zero_sig
  have hi2 : (Try.prog.info? 34).map (·.size) = some (#[.int .i64 0, .int .u64 0, .int .u64 0, .int .u64 0, .int .u64 0, .int .u64 0, .int .u64 0, .int .u64 0, .int .u64 0, .int .u64 0, .int .u64 0, .int .u64 0, .int .u64 0, .int .u64 0, .int .u64 0, .int .u64 0, .int .u64 0, .int .u64 0, .int .u64 0, .slice none 0 0] : Array Value).size := info_sig
  have ho2 : (#[.int .i64 0, .int .u64 0, .int .u64 0, .int .u64 0, .int .u64 0, .int .u64 0, .int .u64 0, .int .u64 0, .int .u64 0, .int .u64 0, .int .u64 0, .int .u64 0, .int .u64 0, .int .u64 0, .int .u64 0, .int .u64 0, .int .u64 0, .int .u64 0, .int .u64 0, .slice none 0 0] : Array Value).all (·.oneCell') = true := by decide +kernel
  obtain ⟨Z, hZ⟩ : ∃ Z, (#[.int .i64 0, .int .u64 0, .int .u64 0, .int .u64 0, .int .u64 0, .int .u64 0, .int .u64 0, .int .u64 0, .int .u64 0, .int .u64 0, .int .u64 0, .int .u64 0, .int .u64 0, .int .u64 0, .int .u64 0, .int .u64 0, .int .u64 0, .int .u64 0, .int .u64 0, .slice none 0 0] : Array Value) = Z := ⟨_, rfl⟩
  have hZs : Z.size = 20 := by rw [← hZ]; rfl
  have HFold : Hid (∀ (G : Option Addr) (n c : Nat), (Z.setIfInBounds 0 (.int .i64 q)).setIfInBounds 19 (.slice G n c) = sgA q (fK f 0) (.slice G n c)) := fun G n c => by rw [← hZ]; exact fold_dec q f G n c
  rw [hZ] at hzs hi2 ho2
  clear hZ
  have hB : Below w.heap.size w (w.alloc (.cells Z 34)) := (Below.refl _ w).alloc (Nat.le_refl _) _
  have hl1 := hl.keep hB
  obtain ⟨b, off, rfl, hbl0, _⟩ := hl (by intro e; rw [e] at hHl; simp at hHl; omega)
  have hDr := (hl.drop 2)
  rw [encB_drop] at hDr
  obtain ⟨b', off', e', hbl, hr⟩ := hl1 (by intro e; rw [e] at hHl; simp at hHl; omega)
  cases e'
  have c0 := hr 0 _ h0
  have c1 := hr 1 _ h1
  have b0 : ((lo8 (q : Int)).toNat : Int) = q := lo8_byte (by omega) (by omega)
  have b1 : ((lo8 (h : Int)).toNat : Int) = h := lo8_byte (by omega) (by omega)
  unfold U8 at c0 c1
  rw [Nat.add_zero] at c0
  rw [b0] at c0
  rw [b1] at c1
  obtain ⟨n2, hn2⟩ : ∃ n2, 144 + 8 * h = n2 := ⟨_, rfl⟩
  have hlN : (bytesL (wds 18 f ++ ls)).length = n2 := by rw [bytesL_len, List.length_append, wds_len, eh]; omega
  have HN : Hid (∀ (i : Nat) (x : BitVec 64) (W : World), (wds 18 f ++ ls)[i]? = some x → Below w.heap.size w W → Calls Try.prog 48 #[.slice (some ⟨b, off + 2, none⟩) n2 (cap - 2), .int .i64 i] W fun e w' => e = .returned (U64 x) ∧ Below W.heap.size W w') := fun i x W hx hW => by
    have hi : i < 18 + h := by
      have := (List.getElem?_eq_some_iff.1 hx).1
      rwa [List.length_append, wds_len, eh] at this
    have := number_any (some ⟨b, off + 2, none⟩) (cap - 2) (bytesL (wds 18 f ++ ls)) (by omega) i (by omega) W (hDr.keep hW)
    rwa [hlN, numB_bytes _ _ _ hx] at this
  clear hr h0 h1 b0 b1 hk hl hl1 hDr hHl hlN
  have hd2 : decide (((146 + 8 * h : Nat) : Int) < 2) = false := by simp; omega
  have hx0 : 0 < 146 + 8 * h := by omega
  have hx1 : 1 < 146 + 8 * h := by omega
  have hc2 : 2 < cap := by omega
  obtain ⟨n, hn⟩ : ∃ n, 146 + 8 * h = n := ⟨_, rfl⟩
  rw [hn] at hd2 hx0 hx1 hcap ⊢
  have en : n - 2 = n2 := by omega
  go_enter Try.func25, Try.ntmps25
  have b8 : BoxN (w.alloc (.cells Z 34)) w.heap.size 34 Z := BoxN.new w _ _
  go_wp2_with fail
  go_quiet (fail)
  rename_i nq
  replace b8 := b8.drewN nq
  replace hB := below_drewN hB nq
  go_wp2_with fail
  (with_reducible refine (HK.out _).mono ?_); rintro e w1 ⟨rfl, hb1⟩
  replace b8 := b8.keep hb1
  replace hB := hB.trans (hb1.mono hB.size)
  clear hb1 c0 c1 hbl
  have hcmp : ((n2 : Int) != (18 + (h : Int)) * 8) = false := by
    rw [bne_eq_false_iff_eq]; omega
  have hmk := makeW h (by omega) w1
  rw [← parV_zero h (fun i => U64 (ls.getD i 0#64)) (.int .u64 0)] at hmk
  obtain ⟨P, hP⟩ : ∃ P, parV h (fun i => U64 (ls.getD i 0#64)) (.int .u64 0) = P := ⟨_, rfl⟩
  rw [hP] at hmk
  have HPp := Lib.hid hP
  obtain ⟨g1, hg1⟩ : ∃ g1, w1.heap.size = g1 := ⟨_, rfl⟩
  obtain ⟨R, hR⟩ : ∃ R : Nat → Array Value, (fun k => sgA q (fK f k) (.slice (some ⟨g1, 0, none⟩) h h)) = R := ⟨_, rfl⟩
  have eZ := HFold.out (some ⟨g1, 0, none⟩) h h
  rw [show sgA q (fK f 0) (.slice (some ⟨g1, 0, none⟩) h h) = R 0 from congrFun hR 0] at eZ
  have hZn : ¬ (Z = #[]) := fun e => by rw [e] at hZs; simp at hZs
  have hZ20 : 19 < Z.size := by omega
  have HRr := Lib.hid hR
  have HR : Hid (∀ k, R k = sgA q (fK f k) (.slice (some ⟨g1, 0, none⟩) h h)) := fun k => (congrFun hR k).symm
  have hRs : ∀ k, (R k).size = 20 := fun k => by rw [HR.out, sgA_size]
  have hiR : (Try.prog.info? 34).map (·.size) = some (R 0).size := by rw [hRs]; exact info_sig
  have hoR : (R 0).all (·.oneCell') = true := by rw [HR.out]; exact sgA_one _ _ _ rfl
  have bP : BoxN (w1.alloc (.cells (P 0) 22)) g1 22 (P 0) := by rw [← hg1]; exact BoxN.new w1 _ _
  have hB1 : Below w.heap.size w (w1.alloc (.cells (P 0) 22)) := hB.alloc hB.size _
  have b8a := b8.alloc (.cells (P 0) 22)
  have hz1 : w.heap.size < g1 := by rw [← hg1]; exact b8.lt
  have bYY : ((w1.alloc (.cells (P 0) 22)).alloc (.cells Z 34)).heap[g1 + 1]? = some (.cells Z 34 (0, 0)) := by
    have := BoxN.new (w1.alloc (.cells (P 0) 22)) 34 Z
    rw [World.size_alloc, hg1] at this
    exact this
  have hz2 : (w1.alloc (.cells (P 0) 22)).heap.size = g1 + 1 := by rw [World.size_alloc, hg1]
  have hsR : Z.size = (R 0).size := by rw [hRs, hZs]
  clear hP hR hRs b8
  rw [hg1] at hmk
  go_wp2_with (refine wpList_store_rowTo rfl 34 _ _ rfl rfl (g1 + 1) (R 0) rfl rfl _ Z bYY hiR hsR hoR ?_)
  have b8b := (b8a.alloc (.cells Z 34)).farRow (g := g1 + 1) (by omega) (R 0)
  have bPb := (bP.alloc (.cells Z 34)).farRow (g := g1 + 1) (by omega) (R 0)
  have bS : BoxN (((w1.alloc (.cells (P 0) 22)).alloc (.cells Z 34)).setRow (g1 + 1) (R 0)) (g1 + 1) 34 (R 0) := BoxN.setRow bYY _
  have hB2 := below_setRow (hB1.alloc (by omega) (.cells Z 34)) (show w.heap.size ≤ g1 + 1 by omega) (R 0)
  clear hmk bYY hz2 hB1 b8a bP hsR hoR hiR hi2 hzs eZ hZn hZ20 hcmp en hB hx1 hx0 hd2 hg1
  generalize ((w1.alloc (.cells (P 0) 22)).alloc (.cells Z 34)).setRow (g1 + 1) (R 0) = W0 at b8b bPb bS hB2 ⊢
  obtain ⟨gS, hgS⟩ : ∃ gS, g1 + 1 = gS := ⟨_, rfl⟩
  rw [hgS] at bS ⊢
  go_loopw [41] (fun i wr => ∃ k : Nat, k ≤ 18 ∧ i = .int .i64 k ∧ BoxN wr gS 34 (R k) ∧ BoxN wr g1 22 (P 0) ∧ BoxN wr w.heap.size 34 Z ∧ Below w.heap.size w wr)
    (fun i _ => (18 - intOf i).toNat)
  case atStart => exact ⟨0, by omega, rfl, bS, bPb, b8b, hB2⟩
  case round =>
    clear bS bPb b8b hB2
    obtain ⟨k, hk, rfl, bS, bP, b8, hB⟩ := hrel
    by_cases hlt : k < 18
    · have hd : decide ((k : Int) < 18) = true := by simp; omega
      have hget : (wds 18 f ++ ls)[k]? = some (f k) := by
        rw [List.getElem?_append_left (by rw [wds_len]; exact hlt)]
        exact wds_get _ _ _ hlt
      have HNk := Lib.hid (HN.out k (f k) wr hget hB)
      have hs : Hid ((R k).setIfInBounds (1 + k) (U64 (f k)) = R (k + 1)) := by unfold Hid; rw [HR.out, HR.out]; exact sgA_step q f _ k hlt
      have hcS : Hid (∀ W, BoxN W gS 34 (R k) → W.cell? ⟨gS, 1 + k, none⟩ = some (U64 (fK f k k))) := fun W h => by
        rw [h.cell, HR.out, sgA_chain _ _ _ _ hlt]
      clear hget
      generalize f k = x at *
      generalize fK f k k = x0 at *
      go_wp2_with fail
      (with_reducible refine HNk.out.mono ?_); rintro e w2 ⟨rfl, hb2⟩
      replace bS := bS.keep hb2
      replace bP := bP.keep hb2
      replace b8 := b8.keep hb2
      replace hB := hB.trans (hb2.mono hB.size)
      have c0 := hcS.out _ bS
      have f0 := bS.frozen (1 + k)
      have hgl := bS.lt
      clear hb2
      go_wp2_with fail
      have b1 := bS.set1 (1 + k) (U64 x)
      rw [hs.out] at b1
      refine ⟨⟨k + 1, by omega, by go_num, b1, bP.far (by simp; omega) _, b8.far (by simp; omega) _, hB.setCell (by simp; omega) _⟩, ?_⟩
      simp [intOf]; omega
    · obtain rfl : k = 18 := by omega
      have c19 := bS.cell 19
      rw [HR.out, sgA_path] at c19
      clear hlt hk
      go_wp2_with fail
      clear c19
      have HcS : Hid (∀ W, BoxN W gS 34 (R 18) → W.cell? ⟨gS, 19, none⟩ = some (.slice (some ⟨g1, 0, none⟩) h h)) := fun W hW => by
        rw [hW.cell, HR.out, sgA_path]
      go_loopw [54] (fun i wr => ∃ k : Nat, k ≤ h ∧ i = .int .i64 k ∧ BoxN wr gS 34 (R 18) ∧ BoxN wr g1 22 (P k) ∧ BoxN wr w.heap.size 34 Z ∧ Below w.heap.size w wr)
        (fun i _ => (h - intOf i).toNat)
      case atStart => exact ⟨0, by omega, rfl, bS, bP, b8, hB⟩
      case round =>
        clear bS bP b8 hB
        obtain ⟨k, hk, rfl, bS, bP, b8, hB⟩ := hrel
        by_cases hlt : k < h
        · have hd : decide ((k : Int) < (h : Int)) = true := by simp; omega
          obtain ⟨m, hm⟩ : ∃ m, 18 + k = m := ⟨_, rfl⟩
          have em : (18 : Int) + (k : Int) = (m : Int) := by omega
          have hgk : ls[k]? = some (ls.getD k 0#64) := by
            rw [List.getD_eq_getElem?_getD, List.getElem?_eq_getElem (by omega)]; rfl
          have hget : (wds 18 f ++ ls)[m]? = some (ls.getD k 0#64) := by
            rw [List.getElem?_append_right (by rw [wds_len]; omega), wds_len, ← hm, Nat.add_sub_cancel_left]
            exact hgk
          have hBd : Below w.heap.size w wr.drew := hB.drew
          have HNk := Lib.hid (HN.out m (ls.getD k 0#64) wr.drew hget hBd)
          have hs : Hid ((P k).setIfInBounds k (U64 (ls.getD k 0#64)) = P (k + 1)) := by unfold Hid; rw [← HPp.out]; exact parV_set h (fun i => U64 (ls.getD i 0#64)) _ k hlt
          have hcP : Hid (∀ W, BoxN W g1 22 (P k) → W.cell? ⟨g1, k, none⟩ = some (.int .u64 0)) := fun W hW => by
            rw [hW.cell, ← HPp.out, parV_get h _ _ k k hlt, if_neg (Nat.lt_irrefl k)]
          clear hget hgk
          generalize ls.getD k 0#64 = x at *
          have wm : IntKind.i64.wrap (m : Int) = (m : Int) := wrapI (by omega) (by omega)
          have hne1 : gS ≠ g1 := by omega
          have hne2 : w.heap.size ≠ g1 := by omega
          have hle : w.heap.size ≤ g1 := by omega
          have hge : w.heap.size ≤ wr.heap.size := hB.size
          have bSd := BoxN.drew bS
          have bPd := BoxN.drew bP
          have b8d := BoxN.drew b8
          have c19 := HcS.out _ bS
          go_upto_region 16 with fail
          clear bS bP b8 hB
          go_region_with (go_at_call 48; (with_reducible refine HNk.out.mono ?_); rintro e w2 ⟨rfl, hb⟩; have p2 := BoxN.keep bPd hb; have s2 := BoxN.keep bSd hb; have z2 := BoxN.keep b8d hb; have c1 := hcP.out _ p2; have f1 := p2.frozen k; have hl1 := p2.lt; have c19b := HcS.out _ s2; have k1 := Lib.hid (p2.set1 k (U64 x)); have k2 := Lib.hid (s2.far (p := ⟨g1, k, none⟩) hne1 (U64 x)); have k3 := Lib.hid (z2.far (p := ⟨g1, k, none⟩) hne2 (U64 x)); have kB := Lib.hid ((hBd.trans (hb.mono (by simpa using hge))).setCell (p := ⟨g1, k, none⟩) hle (U64 x)); clear p2 s2 z2 hb)
          all_goals
            go_wp2_with fail
            go_roundw
            case rel =>
              first
                | exact ⟨k + 1, by omega, by go_num, k2.out, by rw [← hs.out]; exact k1.out, k3.out, kB.out⟩
                | ((repeat apply Exists.intro)
                   refine ⟨?_, rfl⟩
                   exact ⟨k + 1, by omega, by go_num, k2.out, by rw [← hs.out]; exact k1.out, k3.out, kB.out⟩)
            case measure =>
              first
                | (simp [intOf]; omega)
                | (show (h - ((k : Int) + 1)).toNat < (h - (k : Int)).toNat; omega)
        · obtain rfl : k = h := by omega
          have hiR : (Try.prog.info? 34).map (·.size) = some (R 18).size := by rw [HR.out, sgA_size]; exact info_sig
          have hoR : (R 18).all (·.oneCell') = true := by rw [HR.out]; exact sgA_one _ _ _ rfl
          have hsR : Z.size = (R 18).size := by rw [HR.out, sgA_size, hZs]
          have b2 : BoxN (wr.setRow w.heap.size (R 18)) w.heap.size 34 (R 18) := b8.setRow _
          have hB2 := below_setRow hB (Nat.le_refl w.heap.size) (R 18)
          have hT : Hid (R 18 = sgA q f (.slice (some ⟨g1, 0, none⟩) k k)) := by
            unfold Hid
            rw [HR.out]
            exact sgA_congr _ fun i hi => by unfold fK; rw [if_pos hi]
          have b8' : wr.heap[w.heap.size]? = some (.cells Z 34 (0, 0)) := b8
          go_wp2_with (first | (refine wpList_load_row rfl 34 _ rfl gS rfl _ (R 18) _ _ bS Try.underlying34 rfl hiR ?_) | (refine wpList_store_rowTo rfl 34 _ _ rfl rfl w.heap.size (R 18) rfl rfl _ Z b8' hiR hsR hoR ?_))
          have hsB : (wr.setRow w.heap.size (R 18)).heap[g1]? = some (.cells (P k) 22 (0, 0)) := (setRow_other wr w.heap.size g1 (R 18) (by omega)).trans bP
          refine bodyPost_ret (v := .tuple #[.agg (R 18), .int .i64 0]) (results_cell_tmp Try.results25 _ _ w.heap.size _ (R 18) _ rfl b2 Try.underlying34 rfl hiR) rfl ⟨some ⟨g1, 0, none⟩, k, by rw [hT.out], fun _ => ⟨g1, 0, rfl, ?_, fun i z hz => ?_⟩, hB2⟩
          · exact (Array.getElem?_eq_some_iff.1 hsB).1
          · have hik : i < k := by
              have := (List.getElem?_eq_some_iff.1 hz).1
              omega
            have hbb : BoxN (wr.setRow w.heap.size (R 18)) g1 22 (P k) := hsB
            rw [Nat.zero_add, hbb.cell, ← HPp.out, parV_get k _ _ k i hik, if_pos hik, List.getD_eq_getElem?_getD, hz]
            rfl
end Go.Proofs.Ytaoipbndmfjmhaa
