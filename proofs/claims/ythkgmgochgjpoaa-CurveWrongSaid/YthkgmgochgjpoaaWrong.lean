/- CurveWrong returns true. -/
import Derived.Test.YthkgmgochgjpoaaBad
import Derived.BigGuardPart
import Derived.Deep.RegionWith
import Derived.Deep.DeepCutAuto
import Derived.IntWalk
import Derived.Deep.CutBlock
namespace Go.Proofs.Ythkgmgochgjpoaa.Wrong
open Go.RowKit Go.Joins Go.Shelf Go.Sort Num Aw


set_option maxRecDepth 100000 in
set_option maxHeartbeats 8000000 in
theorem walk (A : Option Addr) (cap : Nat) (zs : List Int) (p q : Int) (w : World) (hz : Nums w A zs) (hp0 : 0 ≤ p) (hp1 : p ≤ 255) (hq0 : 0 ≤ q) (hq1 : q ≤ 255) :
    Calls Try.prog 8 #[.slice A zs.length cap, .int .u8 p, .int .u8 q] w fun e w' => e = .returned (.bool true) ∧ Below w.heap.size w w' := by
  obtain ⟨i0, hi, hz0, hz1, hz2⟩ := info_parts infoB
  have HS := small_yes A cap zs w w hz (Below.refl _ _)
  have HN : Hid (∀ (n d : Int) (W : World), _) := fun n d W => num_any n d W
  have HW : Hid (∀ W : World, _) := fun W => Aw.walk W
  have ha1 := (small_len zs).1
  have ha4 := (small_len zs).2
  clear hz
  generalize small zs = a at HS ha1 ha4
  go_enter Try.func8, Try.ntmps8
  go_wp2_with fail
  (with_reducible refine HS.mono ?_); rintro e U1 ⟨Aa, ca, rfl, hic, hb⟩
  have K := ((Kept.start w).keep hb).add (cl_isC Aa ca a) hic
  obtain ⟨ba, oa, rfl, hba, hra⟩ := hic.cells (by intro h; rw [h] at ha1; simp at ha1)
  have own0 : (U1.alloc (.cells #[] 45)).ownsRow U1.heap.size 45 4 (.slice (some ⟨U1.heap.size, 0, none⟩) 0 0) 0 [] := ⟨rfl, .inr ⟨U1.heap.size, 0, #[], rfl, Nat.le_refl _, heap_alloc_new _ _, Nat.le_refl _, Nat.zero_le _, rfl, by simp⟩⟩
  have hB1 := (Below.refl U1.heap.size U1).alloc (Nat.le_refl _) (.cells #[] 45)
  have hra1 := hra.below hB1 hba
  have hca := Lib.hid (cellsOf_length a)
  have HS1 := hb.size
  clear hic HS hb hra
  have hk0 := Int.emod_nonneg p (b := a.length) (by omega)
  have hk1 := Int.emod_lt_of_pos p (b := a.length) (by omega)
  have hne : ((a.length : Int) == 0) = false := by rw [beq_eq_false_iff_ne]; omega
  go_upto_block 0 with (at_builtin; refine wpList_append_own _ rfl _ _ 25 rfl U1.heap.size 45 i0 _ 4 32 Try.underlying25 hi hz0 hz1 hz2 rfl (by decide) _ _ _ rfl own0 ⟨ba, oa, none⟩ a.length ca (cellsOf a) rfl hca.out (row_cells hra1) (one_all a) (by unfold maxLen; omega) (by omega) hB1.size ?_; intro v2 w2 hown2 hgrow2 _; simp only [Nat.zero_add, List.nil_append] at hown2; obtain ⟨g, cg, rfl, hg0, hgl⟩ := hown2.form (by omega))
  have hB2 : Below U1.heap.size U1 w2 := hB1.grown hgrow2 hB1.size (fun j e => own_block_le own0 e)
  obtain ⟨cur, hbx, htake⟩ : ∃ cur, BoxN w2 g 45 cur ∧ cur.toList.take (a.length * 4) = cellsOf a := by
    rcases hown2.2 with ⟨e, _⟩ | ⟨g', cap', cur, e, _, e1, _, _, _, e2⟩
    · cases e
    · cases e
      exact ⟨cur, e1, e2⟩
  generalize hkk : p % (a.length : Int) = kk at *
  have hkl : kk.toNat < a.length := by omega
  obtain ⟨z, hz⟩ : ∃ z, a[kk.toNat]? = some z := ⟨_, List.getElem?_eq_getElem hkl⟩
  have HT := Lib.hid htake
  have HZ := Lib.hid hz
  have HBX := Lib.hid hbx
  have HB2 := Lib.hid hB2
  clear own0 hB1 hra1 hca hgrow2 hown2 htake hz hba HS1 hgl hkk hB2 hbx
  go_cut [8] (fun s8 wx => ∃ A' c' l, s8 = .slice A' l c' ∧ Kept w [isD A' c' l, isC (some ⟨ba, oa, none⟩) ca a] wx)
  case first =>
    rcases (by omega : q % 5 = 0 ∨ q % 5 = 1 ∨ q % 5 = 2 ∨ q % 5 = 3 ∨ q % 5 = 4) with hq | hq | hq | hq | hq
    · have q0 : (q % 5 == 0) = true := by rw [beq_iff_eq]; omega
      clear hq
      go_wp2_with fail
      (with_reducible refine (HN.out _ _ _).mono ?_); rintro e w3 ⟨rfl, hb⟩
      have b3 := HBX.out.below hb.b HBX.out.lt
      have c0 := (b3.cell (kk.toNat * 4)).trans (cur_cells HT.out HZ.out).1
      have c1 := (b3.cell (kk.toNat * 4 + 1)).trans (cur_cells HT.out HZ.out).2.1
      have f0 := b3.frozen (kk.toNat * 4)
      have f1 := b3.frozen (kk.toNat * 4 + 1)
      have hB3 := HB2.out.trans (hb.b.mono HB2.out.size)
      have hB4 := Lib.hid ((hB3.setCell (p := ⟨g, kk.toNat * 4, none⟩) hg0 (.int .i64 2)).setCell (p := ⟨g, kk.toNat * 4 + 1, none⟩) hg0 (.int .i64 4))
      have b4 := Lib.hid ((b3.set1 (kk.toNat * 4) (.int .i64 2)).set1 (kk.toNat * 4 + 1) (.int .i64 4))
      clear b3 hb hB3
      go_wp2_with fail
      go_meet
      exact ⟨_, _, _, rfl, (K.keep hB4.out).add (cl_isD _ _ _) (isD_box (y := ⟨2, 4, z.r.num, z.r.den⟩) b4.out ha4 hkl (by unfold Bk.ok; rw [show amtB 2 4 = false by decide]; rfl) ⟨by show I64 _; dsimp only; decide, by show I64 _; dsimp only; decide, (raw_bd z).h3, (raw_bd z).h4⟩ (set_b HT.out HZ.out))⟩
    · have q0 : (q % 5 == 0) = false := by rw [beq_eq_false_iff_ne]; omega
      have q1 : (q % 5 == 1) = true := by rw [beq_iff_eq]; omega
      clear hq
      go_wp2_with fail
      (with_reducible refine (HN.out _ _ _).mono ?_); rintro e w3 ⟨rfl, hb⟩
      have b3 := HBX.out.below hb.b HBX.out.lt
      have c0 := (b3.cell (kk.toNat * 4 + 2)).trans (cur_cells HT.out HZ.out).2.2.1
      have c1 := (b3.cell (kk.toNat * 4 + 2 + 1)).trans (cur_cells HT.out HZ.out).2.2.2
      have f0 := b3.frozen (kk.toNat * 4 + 2)
      have f1 := b3.frozen (kk.toNat * 4 + 2 + 1)
      have hB3 := HB2.out.trans (hb.b.mono HB2.out.size)
      have hB4 := Lib.hid ((hB3.setCell (p := ⟨g, kk.toNat * 4 + 2, none⟩) hg0 (.int .i64 (-1))).setCell (p := ⟨g, kk.toNat * 4 + 2 + 1, none⟩) hg0 (.int .i64 2))
      have b4 := Lib.hid ((b3.set1 (kk.toNat * 4 + 2) (.int .i64 (-1))).set1 (kk.toNat * 4 + 2 + 1) (.int .i64 2))
      clear b3 hb hB3
      go_wp2_with fail
      go_meet
      exact ⟨_, _, _, rfl, (K.keep hB4.out).add (cl_isD _ _ _) (isD_box (y := ⟨z.b.num, z.b.den, -1, 2⟩) b4.out ha4 hkl (by unfold Bk.ok; rw [show amtB (-1) 2 = false by decide]; exact Bool.and_false _) ⟨(raw_bd z).h1, (raw_bd z).h2, by show I64 _; dsimp only; decide, by show I64 _; dsimp only; decide⟩ (set_r HT.out HZ.out))⟩
    · have q0 : (q % 5 == 0) = false := by rw [beq_eq_false_iff_ne]; omega
      have q1 : (q % 5 == 1) = false := by rw [beq_eq_false_iff_ne]; omega
      have q2 : (q % 5 == 2) = true := by rw [beq_iff_eq]; omega
      clear hq
      have c0 := (HBX.out.cell (kk.toNat * 4)).trans (cur_cells HT.out HZ.out).1
      have c1 := (HBX.out.cell (kk.toNat * 4 + 1)).trans (cur_cells HT.out HZ.out).2.1
      have f0 := HBX.out.frozen (kk.toNat * 4)
      have f1 := HBX.out.frozen (kk.toNat * 4 + 1)
      have hB4 := Lib.hid ((HB2.out.setCell (p := ⟨g, kk.toNat * 4, none⟩) hg0 (.int .i64 0)).setCell (p := ⟨g, kk.toNat * 4 + 1, none⟩) hg0 (.int .i64 0))
      have b4 := Lib.hid ((HBX.out.set1 (kk.toNat * 4) (.int .i64 0)).set1 (kk.toNat * 4 + 1) (.int .i64 0))
      go_wp2_with fail
      go_meet
      exact ⟨_, _, _, rfl, (K.keep hB4.out).add (cl_isD _ _ _) (isD_box (y := ⟨0, 0, z.r.num, z.r.den⟩) b4.out ha4 hkl (by unfold Bk.ok; rw [show amtB 0 0 = false by decide]; rfl) ⟨by show I64 _; dsimp only; decide, by show I64 _; dsimp only; decide, (raw_bd z).h3, (raw_bd z).h4⟩ (set_b HT.out HZ.out))⟩
    · have q0 : (q % 5 == 0) = false := by rw [beq_eq_false_iff_ne]; omega
      have q1 : (q % 5 == 1) = false := by rw [beq_eq_false_iff_ne]; omega
      have q2 : (q % 5 == 2) = false := by rw [beq_eq_false_iff_ne]; omega
      have q3 : (q % 5 == 3) = true := by rw [beq_iff_eq]; omega
      clear hq
      go_wp2_with fail
      go_meet
      exact ⟨_, _, _, rfl, (K.keep HB2.out).add (cl_isD _ _ _) (isD_nil _)⟩
    · have q0 : (q % 5 == 0) = false := by rw [beq_eq_false_iff_ne]; omega
      have q1 : (q % 5 == 1) = false := by rw [beq_eq_false_iff_ne]; omega
      have q2 : (q % 5 == 2) = false := by rw [beq_eq_false_iff_ne]; omega
      have q3 : (q % 5 == 3) = false := by rw [beq_eq_false_iff_ne]; omega
      have q4 : (q % 5 == 4) = true := by rw [beq_iff_eq]; omega
      clear hq
      obtain ⟨cs0, hcs0, hmk⟩ := make33 w2
      have hI0 := Lib.hid hcs0
      obtain ⟨a0, ha0⟩ : ∃ a0, a[0]? = some a0 := ⟨_, List.getElem?_eq_getElem (by omega)⟩
      have HA0 := Lib.hid ha0
      have HK := Lib.hid K
      have r0 := raw_bd a0
      clear hcs0 ha0 K HT HZ HBX
      go_wp2_with fail
      go_loopw [78] (fun i wr => ∃ j : Nat, j ≤ 33 ∧ i = .int .i64 ↑j ∧ (∃ cs, BoxN wr w2.heap.size 45 cs ∧ IntC cs) ∧ Below U1.heap.size U1 wr)
        (fun i _ => 33 - (intOf i).toNat)
      case atStart => exact ⟨0, by omega, rfl, ⟨cs0, BoxN.new w2 _ cs0, hI0.out⟩, HB2.out.alloc HB2.out.size _⟩
      case round =>
      obtain ⟨j, hj, rfl, ⟨cs, hbs, hI⟩, hB⟩ := hrel
      have HBS := Lib.hid hbs
      have HI := Lib.hid hI
      clear hbs hI hmk hI0
      by_cases hlt : j < 33
      · obtain ⟨b', o', e, -, hr⟩ := ((HK.out.keep hB).get 0 rfl).cells (by intro h; rw [h] at ha1; simp at ha1)
        cases e
        obtain ⟨c0, c1, c2, c3⟩ := hr 0 a0 HA0.out
        simp only [Nat.zero_mul, Nat.add_zero] at c0 c1 c2 c3
        obtain ⟨n0, -, d0⟩ := HI.out.2 (j * 4) (by omega)
        obtain ⟨n1, -, d1⟩ := HI.out.2 (j * 4 + 1) (by omega)
        obtain ⟨n2, -, d2⟩ := HI.out.2 (j * 4 + 2) (by omega)
        obtain ⟨n3, -, d3⟩ := HI.out.2 (j * 4 + 3) (by omega)
        replace d0 := (HBS.out.cell _).trans d0
        replace d1 := (HBS.out.cell _).trans d1
        replace d2 := (HBS.out.cell _).trans d2
        replace d3 := (HBS.out.cell _).trans d3
        have f0 := HBS.out.frozen (j * 4)
        have f1 := HBS.out.frozen (j * 4 + 1)
        have f2 := HBS.out.frozen (j * 4 + 2)
        have f3 := HBS.out.frozen (j * 4 + 3)
        have hsz := HB2.out.size
        have hB4 := Lib.hid ((((hB.setCell (p := ⟨w2.heap.size, j * 4, none⟩) hsz (.int .i64 a0.b.num)).setCell (p := ⟨w2.heap.size, j * 4 + 1, none⟩) hsz (.int .i64 a0.b.den)).setCell (p := ⟨w2.heap.size, j * 4 + 2, none⟩) hsz (.int .i64 a0.r.num)).setCell (p := ⟨w2.heap.size, j * 4 + 3, none⟩) hsz (.int .i64 a0.r.den))
        have b4 := Lib.hid ((((HBS.out.set1 (j * 4) (.int .i64 a0.b.num)).set1 (j * 4 + 1) (.int .i64 a0.b.den)).set1 (j * 4 + 2) (.int .i64 a0.r.num)).set1 (j * 4 + 3) (.int .i64 a0.r.den))
        clear hr hB
        go_wp2_with fail
        go_roundw
        case rel => exact ⟨j + 1, by omega, by go_num, ⟨_, b4.out, (((HI.out.set _ r0.h1).set _ r0.h2).set _ r0.h3).set _ r0.h4⟩, hB4.out⟩
        case measure => simp [intOf]; omega
      · obtain rfl : j = 33 := by omega
        have hB' := Lib.hid hB
        clear hB
        go_wp2_with fail
        go_meet
        exact ⟨_, _, _, rfl, (HK.out.keep hB'.out).add (cl_isD _ _ _) (isD_33 HBS.out HI.out)⟩
  case rest =>
    obtain ⟨A', c', l, rfl, K⟩ := hcut
    clear HT HZ HBX HB2 hk0 hk1 hkl hg0
    have ha32 : a.length ≤ 32 := by omega
    clear ha1 ha4 hp0 hp1 hq0 hq1
    go_wp2_with fail
    (with_reducible refine (HN.out _ _ _).mono ?_); rintro e v1 ⟨rfl, hb⟩
    replace K := K.keep hb.b
    clear hb
    have hX := at_no (K.get 0 rfl)
    go_wp2_with fail
    (with_reducible refine hX.mono ?_); rintro e v2 ⟨rfl, hb⟩
    replace K := K.keep hb
    clear hb hX
    replace K := K.alloc (.cells #[.int .i64 0, .int .i64 0] 28)
    have hX := norm_no (K.get 0 rfl)
    go_wp2_with fail
    (with_reducible refine hX.mono ?_); rintro e v3 ⟨rfl, hb⟩
    replace K := K.keep hb
    clear hb hX
    have hX := breaks_no (K.get 0 rfl)
    go_wp2_with fail
    (with_reducible refine hX.mono ?_); rintro e v4 ⟨rfl, hb⟩
    replace K := K.keep hb
    clear hb hX
    have hX := sum_no (K.get 1 rfl) ha32 (K.get 0 rfl)
    go_wp2_with fail
    (with_reducible refine hX.mono ?_); rintro e v5 ⟨rfl, hb⟩
    replace K := K.keep hb
    clear hb hX
    have hX := min_no (K.get 1 rfl) ha32 (K.get 0 rfl)
    go_wp2_with fail
    (with_reducible refine hX.mono ?_); rintro e v6 ⟨rfl, hb⟩
    replace K := K.keep hb
    clear hb hX
    go_wp2_with fail
    (with_reducible refine (HN.out _ _ _).mono ?_); rintro e v7 ⟨rfl, hb⟩
    replace K := K.keep hb.b
    clear hb
    have hX := shift_no (K.get 0 rfl)
    go_wp2_with fail
    (with_reducible refine hX.mono ?_); rintro e v8 ⟨rfl, hb⟩
    replace K := K.keep hb
    clear hb hX
    have hX := rate_no (K.get 0 rfl)
    go_wp2_with fail
    (with_reducible refine hX.mono ?_); rintro e v9 ⟨rfl, hb⟩
    replace K := K.keep hb
    clear hb hX
    replace K := K.alloc (.cells #[.int .i64 0, .int .i64 0] 28)
    go_wp2_with fail
    (with_reducible refine (HN.out _ _ _).mono ?_); rintro e v10 ⟨rfl, hb⟩
    replace K := K.keep hb.b
    clear hb
    have hX := at_neg (K.get 1 rfl) ha32
    go_wp2_with fail
    (with_reducible refine hX.mono ?_); rintro e v11 ⟨rfl, hb⟩
    replace K := K.keep hb
    clear hb hX
    replace K := K.alloc (.cells #[.int .i64 0, .int .i64 0] 28)
    go_wp2_with fail
    (with_reducible refine (HN.out _ _ _).mono ?_); rintro e v12 ⟨rfl, hb⟩
    replace K := K.keep hb.b
    clear hb
    have hX := shift_zero (K.get 1 rfl) ha32
    go_wp2_with fail
    (with_reducible refine hX.mono ?_); rintro e v13 ⟨rfl, hb⟩
    replace K := K.keep hb
    clear hb hX
    go_wp2_with fail
    replace K := K.alloc (.cells #[.int .i64 2, .int .i64 2, .int .i64 2, .int .i64 2, .int .i64 2, .int .i64 2, .int .i64 2, .int .i64 2, .int .i64 2] 30)
    have b9 := BoxN.new v13 30 #[.int .i64 2, .int .i64 2, .int .i64 2, .int .i64 2, .int .i64 2, .int .i64 2, .int .i64 2, .int .i64 2, .int .i64 2]
    generalize v13.alloc (.cells #[.int .i64 2, .int .i64 2, .int .i64 2, .int .i64 2, .int .i64 2, .int .i64 2, .int .i64 2, .int .i64 2, .int .i64 2] 30) = W at K b9 ⊢
    generalize v13.heap.size = gb at b9 ⊢
    have e0 : W.cell? ⟨gb, 0, none⟩ = some (.int .i64 2) := b9.cell 0
    have e1 : W.cell? ⟨gb, 1, none⟩ = some (.int .i64 2) := b9.cell 1
    have e2 : W.cell? ⟨gb, 2, none⟩ = some (.int .i64 2) := b9.cell 2
    have e3 : W.cell? ⟨gb, 3, none⟩ = some (.int .i64 2) := b9.cell 3
    have e4 : W.cell? ⟨gb, 4, none⟩ = some (.int .i64 2) := b9.cell 4
    have e5 : W.cell? ⟨gb, 5, none⟩ = some (.int .i64 2) := b9.cell 5
    have e6 : W.cell? ⟨gb, 6, none⟩ = some (.int .i64 2) := b9.cell 6
    have e7 : W.cell? ⟨gb, 7, none⟩ = some (.int .i64 2) := b9.cell 7
    have e8 : W.cell? ⟨gb, 8, none⟩ = some (.int .i64 2) := b9.cell 8
    clear b9
    refine wp_loop_rounds 10 ?_
    iterate 10 (rw [rounds_succ]; go_wp2_with fail)
    clear e0 e1 e2 e3 e4 e5 e6 e7 e8
    have HK := Lib.hid K
    clear K
    go_loopw [157, 31] (fun i v wr => ∃ k : Nat, k ≤ 17 ∧ i = .int .i64 ↑k ∧ wr.ownsRow W.heap.size 45 4 v k (cellsOf (wL k)) ∧ Below W.heap.size W wr)
      (fun i _ _ => 17 - (intOf i).toNat)
    case atStart => exact ⟨0, by omega, rfl, World.ownsRow_nil _ _ _ _, Below.refl _ _⟩
    case round =>
    obtain ⟨k, hk, rfl, hown, hB⟩ := hrel
    have hform : ∃ g1 c1, u31 = .slice g1 k c1 := by
      rcases hown.2 with ⟨e, e2⟩ | ⟨g1, c1, _, e, _⟩
      · exact ⟨none, 0, by rw [e, e2]⟩
      · exact ⟨_, c1, e⟩
    obtain ⟨g1, c1, rfl⟩ := hform
    by_cases hlt : k < 17
    · have hone : ∀ u ∈ [Value.int .i64 k, .int .i64 1, .int .i64 (20 - k), .int .i64 1], u.oneCell' = true := by
        have h := one_cells (wB k)
        rw [wB_cells hlt] at h
        exact h
      have hsn : Hid (cellsOf (wL (k + 1)) = cellsOf (wL k) ++ [.int .i64 k, .int .i64 1, .int .i64 (20 - k), .int .i64 1]) := by
        unfold Hid
        rw [wL_succ, cellsOf_snoc, wB_cells hlt]
      go_wp2_with fail
      (with_reducible refine (HN.out _ _ _).mono ?_); rintro e w1 ⟨rfl, hb⟩
      have hown1 := own_below hown hb.b
      have hB1 := hB.trans (hb.b.mono hB.size)
      clear hown hB hb
      go_wp2_with fail
      (with_reducible refine (HN.out _ _ _).mono ?_); rintro e w2 ⟨rfl, hb⟩
      have hown2 := own_below hown1 hb.b
      have hB2 := hB1.trans (hb.b.mono hB1.size)
      clear hown1 hB1 hb
      have hNew : (w2.alloc (.cells #[.int .i64 k, .int .i64 1, .int .i64 (20 - k), .int .i64 1] 45)).heap[w2.heap.size]? = some (.cells #[.int .i64 k, .int .i64 1, .int .i64 (20 - k), .int .i64 1] 45 (0, 0)) := heap_alloc_new _ _
      have hNews := Lib.hid (World.news_of_block hNew)
      have own3 := hown2.alloc (.cells #[.int .i64 k, .int .i64 1, .int .i64 (20 - k), .int .i64 1] 45)
      have hB3 := hB2.alloc hB2.size (.cells #[.int .i64 k, .int .i64 1, .int .i64 (20 - k), .int .i64 1] 45)
      clear hNew hown2
      go_wp2_with (at_builtin; refine wpList_append_own _ rfl _ _ 25 rfl W.heap.size 45 i0 _ 4 32 Try.underlying25 hi hz0 hz1 hz2 rfl (by decide) _ _ _ rfl own3 ⟨w2.heap.size, 0, none⟩ 1 1 [.int .i64 k, .int .i64 1, .int .i64 (20 - k), .int .i64 1] rfl rfl hNews.out hone (by unfold maxLen; omega) (by omega) hB3.size ?_; intro v' w3 hown' hgrow _; obtain ⟨g', cap3, rfl⟩ := ownsRow_succ hown')
      have hbl2 : ∀ r, (Value.slice g1 k c1).ownBlock = some r → W.heap.size ≤ r := fun r e => by
        rcases own3.2 with ⟨e1, _⟩ | ⟨g4, c4, _, e1, h4, _⟩
        · rw [e1] at e; cases e
        · rw [e1] at e; cases e; exact h4
      have hB4 : Below W.heap.size W w3 := hB3.grown hgrow hB3.size hbl2
      go_roundw
      case rel => exact ⟨k + 1, by omega, by go_num, by rw [hsn.out]; exact hown', hB4⟩
      case measure => simp [intOf]; omega
    · obtain rfl : k = 17 := by omega
      obtain ⟨gw, cw, rfl, hcw⟩ : ∃ gw cw, g1 = some ⟨gw, 0, none⟩ ∧ cw = c1 ∧ 17 ≤ c1 := by
        rcases hown.2 with ⟨_, e⟩ | ⟨g', cap', _, e, _, _, e1, _⟩
        · cases e
        · cases e; exact ⟨g', _, rfl, rfl, e1⟩
      obtain ⟨rfl, hcw⟩ := hcw
      have hown' : wr.ownsRow W.heap.size 45 4 (.slice (some ⟨gw, 0, none⟩) (wL 17).length cw) (wL 17).length (cellsOf (wL 17)) := by rw [wL_len]; exact hown
      have K := (HK.out.keep hB).add (cl_isC (some ⟨gw, 0, none⟩) cw (wL 17)) (isC.of_own ⟨hown', ⟨(fun h => by cases h), (fun h => by have := congrArg List.length h; rw [wL_len] at this; simp at this)⟩⟩)
      clear hown hown' hB HK hlt hk
      go_wp2_with fail
      (with_reducible refine (HN.out _ _ _).mono ?_); rintro e x1 ⟨rfl, hb⟩
      replace K := K.keep hb.b
      clear hb
      go_wp2_with fail
      (with_reducible refine (HN.out _ _ _).mono ?_); rintro e x2 ⟨rfl, hb⟩
      replace K := K.keep hb.b
      clear hb
      go_wp2_with fail
      (with_reducible refine (HN.out _ _ _).mono ?_); rintro e x3 ⟨rfl, hb⟩
      replace K := K.keep hb.b
      clear hb
      go_wp2_with fail
      (with_reducible refine (HN.out _ _ _).mono ?_); rintro e x4 ⟨rfl, hb⟩
      replace K := K.keep hb.b
      clear hb
      replace K := (K.alloc (.cells #[.int .i64 50, .int .i64 1, .int .i64 1, .int .i64 1, .int .i64 51, .int .i64 1, .int .i64 0, .int .i64 1] 45)).add (cl_isC (some ⟨x4.heap.size, 0, none⟩) 2 two) (isC.lit x4 two 2 _ cells_two.symm)
      have hX := sum_many (K.get 1 rfl) (K.get 0 rfl)
      go_wp2_with fail
      (with_reducible refine hX.mono ?_); rintro e x5 ⟨rfl, hb⟩
      replace K := K.keep hb
      clear hb hX
      have hX := sum_some (isC_take (K.get 1 rfl) wL_pre) (K.get 0 rfl)
      go_wp2_with fail
      (with_reducible refine hX.mono ?_); rintro e x6 ⟨vv, rfl, hb⟩
      replace K := K.keep hb
      clear hb hX
      have hX := valid_no (K.get 2 rfl)
      go_wp2_with fail
      (with_reducible refine hX.mono ?_); rintro e x7 ⟨rfl, hb⟩
      replace K := K.keep hb
      clear hb hX
      go_wp2_with fail
      (with_reducible refine (HW.out _).mono ?_); rintro e x8 ⟨rfl, hb⟩
      have hB := Lib.hid (K.keep hb).b
      clear K hb
      go_wp2
      go_ret
      exact ⟨rfl, hB.out⟩
end Go.Proofs.Ythkgmgochgjpoaa.Wrong
