/- Merged texts: CAbLaw. -/
import Derived.Test.YtcfbccdicgeddaaGreatM26
/- CalculusAbove returns true. -/
namespace Go.Proofs.YtcfbccdicgeddaaGreat.AbLaw
open Go.RowKit Go.Joins Go.Shelf Go.Sort Num Mx

theorem wrap_i64 {z : Int} (h : -1073741824 ≤ z ∧ z ≤ 1073741824) : IntKind.i64.wrap z = z := by
  unfold IntKind.wrap
  simp [IntKind.signed, IntKind.bits]
  omega
set_option maxRecDepth 100000 in
set_option maxHeartbeats 8000000 in
theorem walk (A : Option Addr) (cap : Nat) (zs : List Int) (B : Option Addr) (cap2 : Nat) (us : List Int) (r d t : Int) (hr : 0 ≤ r ∧ r ≤ 255) (hd : 0 ≤ d ∧ d ≤ 255) (ht : 0 ≤ t ∧ t ≤ 65535) (w : World) (hz : Nums w A zs) (hu : Nums w B us) :
    Calls Tryz.prog 6 #[.slice A zs.length cap, .slice B us.length cap2, .int .u8 r, .int .u8 d, .int .u16 t] w fun e w' => e = .returned (.bool true) ∧ Below w.heap.size w w' := by
  have HS := Lib.hid (small_yes A cap zs w w hz (Below.refl _ _))
  have HT : Hid (∀ W : World, Below w.heap.size w W → _) := fun W hb => small_yes B cap2 us w W hu hb
  have HW : Hid (∀ W : World, _) := fun W => Aw3.walk W
  have HN : Hid (∀ (n d : Int) (W : World), _) := fun n d W => num3_any n d W
  have hca := small_ne zs
  have hcb := small_ne us
  have hsa := small_sm zs
  have hsb := small_sm us
  have ha1 := small_len zs
  have hb1 := small_len us
  clear hz hu
  generalize small zs = a at HS hca hsa ha1
  generalize small us = b at HT hcb hsb hb1
  have ha : 1 ≤ a.length ∧ a.length ≤ 32 := by omega
  have hb0 : 1 ≤ b.length ∧ b.length ≤ 32 := by omega
  obtain ⟨na, hna⟩ : ∃ n, a.length = n := ⟨_, rfl⟩
  obtain ⟨nb, hnb⟩ : ∃ n, b.length = n := ⟨_, rfl⟩
  rw [hna] at HS
  rw [hnb] at HT
  obtain ⟨P, hP⟩ : ∃ P, 1 + r % 160 = P := ⟨_, rfl⟩
  obtain ⟨L, hDD⟩ : ∃ L, d % 101 = L := ⟨_, rfl⟩
  obtain ⟨X, hTT⟩ : ∃ X, t % 4001 = X := ⟨_, rfl⟩
  have hP1 : 1 ≤ P ∧ P ≤ 160 := by omega
  have hL1 : 0 ≤ L ∧ L ≤ 100 := by omega
  have hX1 : 0 ≤ X ∧ X ≤ 4000 := by omega
  obtain ⟨fp, p0⟩ := rate_fit hP1 (e := 8) (by decide)
  have HP : Hid (∀ W : World, _) := fun W => make_w P 8 (by omega) (by decide) W
  have HX : Hid (∀ W : World, _) := fun W => make_one X (by omega) W
  have fL : Fit (L : Rat) := int_fit (by omega)
  have fX : Fit (X : Rat) := int_fit (by omega)
  have pL : 0 ≤ (L : Rat) := Rat.intCast_le_intCast.2 hL1.1
  have pX : 0 ≤ (X : Rat) := Rat.intCast_le_intCast.2 hX1.1
  have hsml : SmL [a, b] := fun c hc => by
    simp only [List.mem_cons, List.not_mem_nil, or_false] at hc
    rcases hc with rfl | rfl
    · exact ⟨hca, hsa⟩
    · exact ⟨hcb, hsb⟩
  have hgr := gd_rate hP1 (e := 8) (by decide)
  have hdl := delay_sm hsml (by simp) p0 (D := P.toNat) (K := 65600) (by omega) (by omega) (by decide) (fun y hy => gd_div8 hP1 hy) (L := L) (by omega)
  have hbl := back_sm hsml (by simp) (r := Rat.divInt P 8) (E := 8) (by decide) (by decide) hgr (L := L) fL (by omega)
  have hrs : sumf rateL [a, b] = rateL a + rateL b := by show rateL a + (rateL b + 0) = _; grind
  rw [hrs] at hdl hbl
  obtain ⟨⟨a1, b1, c1⟩, hv1⟩ : ∃ t, delayV [a, b] (Rat.divInt P 8) (L : Rat) = t := ⟨_, rfl⟩
  obtain ⟨⟨a2, b2, c2⟩, hv2⟩ : ∃ t, backV [a, b] (Rat.divInt P 8) (L : Rat) fL = t := ⟨_, rfl⟩
  have HD : Hid (∀ (A : Option Addr) (cap : Nat) (W : World), isL A [a, b] W → _) := fun A cap W hI => delay_w (by simp) fp p0 fL pL 2 rfl _ _ L 1 a1 b1 c1 rfl rfl rfl rfl hv1 A cap W hI
  have HB : Hid (∀ (A : Option Addr) (cap : Nat) (W : World), isL A [a, b] W → _) := fun A cap W hI => back_w (by simp) fp p0 fL pL 2 rfl _ _ L 1 a2 b2 c2 rfl rfl rfl rfl hv2 A cap W hI
  rw [hv1] at hdl
  rw [hv2] at hbl
  clear hv1 hv2
  have gra := sm_rate hca hsa
  have grb := sm_rate hcb hsb
  have HRa : Hid (∀ (A : Option Addr) (ca : Nat) (W : World), isC A ca a W → _) := fun A ca W hi => rate_yes hi ha.1 ha.2 na hna _ _ rfl rfl
  have HRb : Hid (∀ (A : Option Addr) (ca : Nat) (W : World), isC A ca b W → _) := fun A ca W hi => rate_yes hi hb0.1 hb0.2 nb hnb _ _ rfl rfl
  generalize hra : rateL a = ra at *
  generalize hrb : rateL b = rb at *
  have fra : Fit ra := gd_fit gra (by decide) (by decide) (by decide)
  have frb : Fit rb := gd_fit grb (by decide) (by decide) (by decide)
  have frr : Fit (ra + rb) := gd_fit (gd_add gra grb) (by decide) (by decide) (by decide)
  have HR2 : Hid (∀ W : World, _) := fun W => add_yes fra frb frr W
  obtain ⟨av, avg⟩ := sm_at hca hsa (Z := 4000) (by decide) hX1
  obtain ⟨bv, bvg⟩ := sm_at hcb hsb (Z := 4000) (by decide) hX1
  have hoka : ∀ z ∈ a, okv z X := by
    unfold atO at av
    split at av
    · assumption
    · cases av
  have hokb : ∀ z ∈ b, okv z X := by
    unfold atO at bv
    split at bv
    · assumption
    · cases bv
  have HVa : Hid (∀ (A : Option Addr) (ca : Nat) (W : World), isC A ca a W → _) := fun A ca W hi => at_yes (X : Rat) hi ha.1 ha.2 fX pX hoka na hna X 1 _ _ rfl rfl rfl rfl
  have HVb : Hid (∀ (A : Option Addr) (ca : Nat) (W : World), isC A ca b W → _) := fun A ca W hi => at_yes (X : Rat) hi hb0.1 hb0.2 fX pX hokb nb hnb X 1 _ _ rfl rfl rfl rfl
  clear av bv hoka hokb
  obtain ⟨va, hva⟩ : ∃ v, minV a X = v := ⟨_, rfl⟩
  obtain ⟨vb, hvb⟩ : ∃ v, minV b X = v := ⟨_, rfl⟩
  rw [hva] at HVa avg
  rw [hvb] at HVb bvg
  have fva : Fit va := gd_fit avg (by decide) (by decide) (by decide)
  have fvb : Fit vb := gd_fit bvg (by decide) (by decide) (by decide)
  have gtot := gd_add avg bvg
  have ftot : Fit (va + vb) := gd_fit gtot (by decide) (by decide) (by decide)
  have HTot : Hid (∀ W : World, _) := fun W => add_yes fva fvb ftot W
  have hwd : IntKind.i64.wrap d = d := wrap_i64 (by omega)
  have htm : d.tmod 101 = L := by rw [Int.tmod_eq_emod_of_nonneg hd.1]; exact hDD
  have hP := Lib.hid hP
  have hDD := Lib.hid hDD
  have hTT := Lib.hid hTT
  have Ha := Lib.hid ha
  have Hb0 := Lib.hid hb0
  obtain ⟨p, hpd⟩ : ∃ p, Rat.divInt P 8 = p := ⟨_, rfl⟩
  simp only [hpd] at *
  have K := Kept.start w
  go_enter Tryz.func6, Tryz.ntmps6
  go_wp2_with fail
  (with_reducible refine (HS.out).mono ?_); rintro e U1 ⟨Aa, ca, rfl, hi, hb⟩
  have HT1 := HT.out _ hb
  replace K := (K.keep hb).add (cl_isC Aa ca a) hi
  clear hi hb HS HT
  go_wp2_with fail
  (with_reducible refine (HT1).mono ?_); rintro e U2 ⟨Ab, cb, rfl, hi, hb⟩
  replace K := (K.keep hb).add (cl_isC Ab cb b) hi
  clear hi hb HT1
  have hIL := isL.two (K.get 1 rfl) (K.get 0 rfl) ha hb0 29 na nb hna hnb
  replace K := ((K.alloc (.cells #[.slice Aa na ca, .slice Ab nb cb] 29)).add (cl_isL _ _) hIL).add (cl_box U2.heap.size _ _) (BoxN.new U2 29 #[.slice Aa na ca, .slice Ab nb cb])
  clear hIL
  have hPo := hP.out
  have hDo := hDD.out
  have hTo := hTT.out
  go_wp2_with fail
  (with_reducible refine (HP.out _).mono ?_); rintro e U3 ⟨rfl, hb⟩
  replace K := (K.keep hb).box (p.num) (p.den)
  clear hb
  have p0 := (K.get 0 rfl).c0
  have p1 := (K.get 0 rfl).c1
  have l12 := (K.get 0 rfl).lt
  go_wp2_with fail
  generalize hW0 : U3.alloc (.cells #[.int .i64 p.num, .int .i64 (p.den : Int)] 24) = W0 at *
  generalize U2.heap.size = g11 at *
  generalize U3.heap.size = g12 at *
  refine wp_region_inv (Inv := fun Lb a W => ∃ (b0 b1 b2 b3 b4 b5 b6 b7 : Bool) (G6 : Nat), Lb = #[b0, b1, b2, b3, b4, b5, b6, b7] ∧ a = { tmps := #[Value.slice A zs.length cap, Value.slice B us.length cap2, Value.int IntKind.u8 r, Value.int IntKind.u8 d, Value.int IntKind.u16 t, undef, undef, undef, undef, undef, Value.bool false, Value.slice (some ⟨g11, 0, none⟩) 2 2, Value.pointer (some ⟨g12, 0, none⟩), Value.int IntKind.i64 0, (bif b6 then .pointer (some ⟨G6, 0, none⟩) else undef), undef, undef, undef, undef, undef, undef, undef, undef, undef, undef, undef, undef, undef, undef, undef, undef, undef, undef, undef, undef, undef, undef, undef, undef, Value.slice A zs.length cap, Value.slice Aa na ca, Value.slice B us.length cap2, Value.slice Ab nb cb, Value.slice (some ⟨g11, 0, none⟩) 2 2, Value.tuple #[Value.agg #[Value.int IntKind.i64 p.num, Value.int IntKind.i64 ↑p.den], Value.int IntKind.i64 0], Value.int IntKind.u8 r, Value.int IntKind.i64 r, Value.int IntKind.i64 (r % 160), Value.int IntKind.i64 P, Value.tuple #[Value.agg #[Value.int IntKind.i64 p.num, Value.int IntKind.i64 ↑p.den], Value.int IntKind.i64 0], Value.agg #[Value.int IntKind.i64 p.num, Value.int IntKind.i64 ↑p.den], Value.int IntKind.i64 0, (bif b0 then .agg #[.int .i64 p.num, .int .i64 (p.den : Int)] else undef), (bif b1 then .int .u8 d else undef), (bif b2 then .int .i64 d else undef), (bif b3 then .int .i64 L else undef), (bif b4 then .agg #[.int .i64 L, .int .i64 1] else undef), (bif b5 then .agg #[.int .i64 p.num, .int .i64 (p.den : Int), .int .i64 L, .int .i64 1] else undef), undef, undef, undef, undef, undef, undef, undef, undef, undef, undef, undef, undef, undef, undef, undef, undef, undef, undef, undef, undef, undef, undef, undef, undef, undef, undef, undef, undef, undef, undef, undef, undef, undef, undef, undef, undef, undef, undef, undef, undef, undef, undef, undef, undef, undef, undef, undef, undef, undef, undef, undef, undef, undef, undef, undef, undef, undef, undef, undef, undef, undef, undef, undef, undef, undef, undef, undef, undef, undef, undef, undef, undef, undef, undef, undef, undef, undef, undef, undef, undef, undef, undef, undef, undef, undef, undef, undef, undef, undef, undef, undef, undef, undef, undef, undef, undef, undef, undef, undef, undef, undef, undef, undef, undef, undef, undef, undef, undef, undef, undef, undef, undef, undef, undef, undef, undef, undef, undef, undef, undef, undef, undef, undef, undef, undef, undef, undef, undef, undef, undef, undef, undef, undef, undef, undef, undef, undef, undef, undef, undef, undef, undef, undef, undef, undef, undef, undef, undef, undef, undef, undef, undef], defers := [] } ∧ (b7 = true → b6 = true) ∧ Below W0.heap.size W0 W ∧ (b6 = true → W0.heap.size ≤ G6 ∧ G6 < W.heap.size ∧ (b7 = false → BoxN W G6 26 #[.int .i64 0, .int .i64 0, .int .i64 0, .int .i64 0]) ∧ (b7 = true → BoxN W G6 26 #[.int .i64 p.num, .int .i64 (p.den : Int), .int .i64 L, .int .i64 1]))) (by kernel_rfl) (down_of (by decide +kernel)) ?start ?size ?done ?step
  case start => exact ⟨false, false, false, false, false, false, false, false, 0, rfl, rfl, by simp, (Below.refl _ _).drew, by simp⟩
  case size =>
    rintro Lb aR W ⟨b0, b1, b2, b3, b4, b5, b6, b7, G6, rfl, -⟩
    rfl
  case step =>
    rintro Lb aR W i o ⟨b0, b1, b2, b3, b4, b5, b6, b7, G6, rfl, rfl, p7, f0, f1⟩ ho hl' hdep
    have hi' : i < 8 := (Array.getElem?_eq_some_iff.1 ho).1
    have hi2 : i = 0 ∨ i = 1 ∨ i = 2 ∨ i = 3 ∨ i = 4 ∨ i = 5 ∨ i = 6 ∨ i = 7 := by omega
    clear hi'
    replace p7 := Lib.hid p7
    replace f0 := Lib.hid f0
    replace f1 := Lib.hid f1
    rcases hi2 with rfl | rfl | rfl | rfl | rfl | rfl | rfl | rfl
    · cases ho
      obtain rfl : b0 = false := hl'
      clear hdep
      have c0 := (f0.out.cell (l12)).trans p0
      have c1 := (f0.out.cell (l12)).trans p1
      refine wpOp_step rfl (fun K hK => ?_)
      go_simp
      refine hK _ _ ?_; clear hK K
      exact ⟨true, b1, b2, b3, b4, b5, b6, b7, G6, rfl, rfl, p7.out, f0.out, f1.out⟩
    · cases ho
      obtain rfl : b1 = false := hl'
      clear hdep
      refine wpOp_step rfl (fun K hK => ?_)
      go_simp
      refine hK _ _ ?_; clear hK K
      exact ⟨b0, true, b2, b3, b4, b5, b6, b7, G6, rfl, rfl, p7.out, f0.out, f1.out⟩
    · cases ho
      obtain rfl : b2 = false := hl'
      obtain rfl : b1 = true := hdep ⟨1, .data⟩ (by simp) rfl
      clear hdep
      refine wpOp_step rfl (fun K hK => ?_)
      simp only [cond_true]
      go_simp
      refine hK _ _ ?_; clear hK K
      exact ⟨b0, true, true, b3, b4, b5, b6, b7, G6, rfl, rfl, p7.out, f0.out, f1.out⟩
    · cases ho
      obtain rfl : b3 = false := hl'
      obtain rfl : b2 = true := hdep ⟨2, .data⟩ (by simp) rfl
      clear hdep
      refine wpOp_step rfl (fun K hK => ?_)
      simp only [cond_true]
      go_simp
      refine hK _ _ ?_; clear hK K
      exact ⟨b0, b1, true, true, b4, b5, b6, b7, G6, rfl, rfl, p7.out, f0.out, f1.out⟩
    · cases ho
      obtain rfl : b4 = false := hl'
      obtain rfl : b3 = true := hdep ⟨3, .data⟩ (by simp) rfl
      clear hdep
      refine wpOp_step rfl (fun K hK => ?_)
      simp only [cond_true]
      go_simp
      (with_reducible refine (HN.out _ _ _).mono ?_); rintro e w4 ⟨rfl, hb⟩
      refine hK _ _ ?_; clear hK K
      exact ⟨b0, b1, b2, true, true, b5, b6, b7, G6, rfl, rfl, p7.out, f0.out.trans (hb.mono f0.out.size), fun h => ⟨(f1.out h).1, Nat.lt_of_lt_of_le (f1.out h).2.1 hb.size, fun e => ((f1.out h).2.2.1 e).below hb (f1.out h).2.1, fun e => ((f1.out h).2.2.2 e).below hb (f1.out h).2.1⟩⟩
    · cases ho
      obtain rfl : b5 = false := hl'
      obtain rfl : b0 = true := hdep ⟨0, .data⟩ (by simp) rfl
      obtain rfl : b4 = true := hdep ⟨4, .data⟩ (by simp) rfl
      clear hdep
      refine wpOp_step rfl (fun K hK => ?_)
      simp only [cond_true]
      go_simp
      refine hK _ _ ?_; clear hK K
      exact ⟨true, b1, b2, b3, true, true, b6, b7, G6, rfl, rfl, p7.out, f0.out, f1.out⟩
    · cases ho
      obtain rfl : b6 = false := hl'
      clear hdep
      obtain rfl : b7 = false := by cases b7 with | false => rfl | true => exact absurd (p7.out rfl) (by simp)
      refine wpOp_step rfl (fun K hK => ?_)
      go_simp
      refine hK _ _ ?_; clear hK K
      exact ⟨b0, b1, b2, b3, b4, b5, true, false, W.heap.size, rfl, rfl, by simp, f0.out.alloc f0.out.size _, fun _ => ⟨f0.out.size, by simp, fun _ => BoxN.new W 26 #[.int .i64 0, .int .i64 0, .int .i64 0, .int .i64 0], by simp⟩⟩
    · cases ho
      obtain rfl : b7 = false := hl'
      obtain rfl : b6 = true := hdep ⟨6, .data⟩ (by simp) rfl
      obtain rfl : b5 = true := hdep ⟨5, .data⟩ (by simp) rfl
      clear hdep
      obtain ⟨hle, hlt, hbz, -⟩ := f1.out rfl
      have bS := hbz rfl
      clear hbz
      have z0 := bS.cell 0
      have y0 := bS.frozen 0
      have z1 := bS.cell 1
      have y1 := bS.frozen 1
      have z2 := bS.cell 2
      have y2 := bS.frozen 2
      have z3 := bS.cell 3
      have y3 := bS.frozen 3
      refine wpOp_step rfl (fun K hK => ?_)
      simp only [cond_true]
      go_simp
      refine hK _ _ ?_; clear hK K
      exact ⟨b0, b1, b2, b3, b4, true, true, true, G6, rfl, rfl, by simp, ((((f0.out.setCell (p := ⟨G6, 0, none⟩) hle (.int .i64 p.num)).setCell (p := ⟨G6, 1, none⟩) hle (.int .i64 (p.den : Int))).setCell (p := ⟨G6, 2, none⟩) hle (.int .i64 L)).setCell (p := ⟨G6, 3, none⟩) hle (.int .i64 1)), fun _ => ⟨hle, by simpa using hlt, by simp, fun _ => bS.set4 (.int .i64 p.num) (.int .i64 (p.den : Int)) (.int .i64 L) (.int .i64 1)⟩⟩
  case done =>
    rintro Lb aR W ⟨j0, j1, j2, j3, j4, j5, j6, j7, G6, rfl, rfl, -, f0, f1⟩ hall
    obtain rfl : j0 = true := hall 0 (by decide)
    obtain rfl : j1 = true := hall 1 (by decide)
    obtain rfl : j2 = true := hall 2 (by decide)
    obtain rfl : j3 = true := hall 3 (by decide)
    obtain rfl : j4 = true := hall 4 (by decide)
    obtain rfl : j5 = true := hall 5 (by decide)
    obtain rfl : j6 = true := hall 6 (by decide)
    obtain rfl : j7 = true := hall 7 (by decide)
    clear hall
    obtain ⟨-, -, -, hb14⟩ := f1 rfl
    replace hb14 := hb14 rfl
    replace K := (K.keep f0).add (cl_box G6 _ _) hb14
    clear f0 f1 hb14 p0 p1 l12 hW0
    simp only [cond_true]
    go_wp2_with fail
    (with_reducible refine (HX.out _).mono ?_); rintro e U4 ⟨rfl, hb⟩
    replace K := (K.keep hb).box (X) (1)
    clear hb
    have s0 := (K.get 1 rfl).cell 0
    have s1 := (K.get 1 rfl).cell 1
    have s2 := (K.get 1 rfl).cell 2
    have s3 := (K.get 1 rfl).cell 3
    go_wp2_with fail
    (with_reducible refine (HD.out _ _ _ (K.get 4 rfl)).mono ?_); rintro e U5 ⟨rfl, hb⟩
    clear s0 s1 s2 s3
    replace K := (K.keep hb).box (a1) (b1)
    clear hb
    have s0 := (K.get 2 rfl).cell 0
    have s1 := (K.get 2 rfl).cell 1
    have s2 := (K.get 2 rfl).cell 2
    have s3 := (K.get 2 rfl).cell 3
    go_wp2_with fail
    (with_reducible refine (HB.out _ _ _ (K.get 5 rfl)).mono ?_); rintro e U6 ⟨rfl, hb⟩
    clear s0 s1 s2 s3
    replace K := (K.keep hb).box (a2) (b2)
    clear hb
    have HC : Hid (∀ W : World, _) := fun W => cmp_r frr fp W
    have hkk := cmp_gt (r := ra + rb) (s := p)
    generalize cmpQ (ra + rb) p = kk at HC hkk
    by_cases hlt : p < ra + rb
    · rw [if_pos hlt] at hdl hbl
      simp only [Prod.mk.injEq] at hdl hbl
      obtain ⟨rfl, rfl, rfl⟩ := hdl
      obtain ⟨rfl, rfl, rfl⟩ := hbl
      have hk := hkk.2 hlt
      clear hlt hkk
      have i0 := (K.get 5 rfl).cell 0
      have i1 := (K.get 5 rfl).cell 1
      go_wp2_with fail
      (with_reducible refine (HRa.out _ _ _ (K.get 8 rfl)).mono ?_); rintro e U7 ⟨rfl, hb⟩
      clear i0 i1
      replace K := (K.keep hb).box (ra.num) (ra.den)
      clear hb
      have i0 := (K.get 6 rfl).cell 0
      have i1 := (K.get 6 rfl).cell 1
      go_wp2_with fail
      (with_reducible refine (HRb.out _ _ _ (K.get 8 rfl)).mono ?_); rintro e U8 ⟨rfl, hb⟩
      clear i0 i1
      replace K := (K.keep hb).box (rb.num) (rb.den)
      clear hb
      have u0 := (K.get 1 rfl).c0
      have u1 := (K.get 1 rfl).c1
      have v0 := (K.get 0 rfl).c0
      have v1 := (K.get 0 rfl).c1
      go_wp2_with fail
      (with_reducible refine (HR2.out _).mono ?_); rintro e U9 ⟨rfl, hb⟩
      clear u0 u1 v0 v1
      replace K := (K.keep hb).box ((ra + rb).num) ((ra + rb).den)
      clear hb
      have u0 := (K.get 0 rfl).c0
      have u1 := (K.get 0 rfl).c1
      have v0 := (K.get 7 rfl).c0
      have v1 := (K.get 7 rfl).c1
      go_wp2_with fail
      (with_reducible refine (HC.out _).mono ?_); rintro e Y ⟨rfl, hb⟩
      clear u0 u1 v0 v1
      replace K := K.keep hb.b
      clear hb
      go_wp2_with fail
      (with_reducible refine (HW.out _).mono ?_); rintro e Z ⟨rfl, hb⟩
      have hB := Lib.hid (K.keep hb).b
      clear K hb
      go_wp2
      go_ret
      exact ⟨rfl, hB.out⟩
    rw [if_neg hlt] at hdl hbl
    obtain ⟨m, e1, hDl, gm⟩ := hdl
    obtain ⟨mb, e2, hBl, gmb⟩ := hbl
    simp only [Prod.mk.injEq] at e1 e2
    obtain ⟨rfl, rfl, rfl⟩ := e1
    obtain ⟨rfl, rfl, rfl⟩ := e2
    have hk : ¬ 0 < kk := fun h => hlt (hkk.1 h)
    clear hkk
    have hmath := above_le p0 hDl hBl X hX1.1
    rw [hva, hvb] at hmath
    obtain ⟨hm1, hm2⟩ := hmath
    have gX : Gd P.toNat (4000 * P.toNat) (X : Rat) := gd_up P.toNat (by omega) (gd_int (Z := 4000) hX1)
    have gL : Gd P.toNat (100 * P.toNat) (L : Rat) := gd_up P.toNat (by omega) (gd_int (Z := 100) hL1)
    have g1 := gd_add gX gm
    have g2 := gd_sub g1 gL
    have g3 := pos_gd g2
    have g5 := gd_sub gX gL
    have g6 := pos_gd g5
    have hgp : Gd 8 160 p := hgr
    have g4 := gd_mul hgp g3
    have q4 := gd_mono g4 (L := 160 * (4000 * P.toNat + (65600 + 1310 * P.toNat) + 100 * P.toNat)) (Nat.le_refl _)
    have hP2 : P.toNat ≤ 160 := by omega
    have fm : Fit m := gd_fit gm (by omega) (by omega) (by omega)
    have fmb : Fit mb := gd_fit gmb (by decide) (by decide) (by decide)
    have f1 : Fit ((X : Rat) + m) := gd_fit g1 (by omega) (by omega) (by omega)
    have f2 : Fit ((X : Rat) + m - L) := gd_fit g2 (by omega) (by omega) (by omega)
    have f4 : Fit (p * pos ((X : Rat) + m - L)) := gd_fit g4 (by omega) (by omega) (by omega)
    have gXL : Gd 1 4100 ((X : Rat) - L) := gd_mono (gd_sub (gd_int (Z := 4000) hX1) (gd_int (Z := 100) hL1)) (by decide)
    have f5 : Fit ((X : Rat) - L) := gd_fit gXL (by decide) (by decide) (by decide)
    have g7 := gd_mul hgp (pos_gd gXL)
    have f7 : Fit (p * pos ((X : Rat) - L)) := gd_fit g7 (by decide) (by decide) (by decide)
    have g8 := gd_add (gd_scale 8 (by decide) g7) gmb
    have f8 : Fit (p * pos ((X : Rat) - L) + mb) := gd_fit g8 (by decide) (by decide) (by decide)
    have HLat : Hid (∀ W : World, Calls Tryz.prog 31 #[.agg #[.int .i64 X, .int .i64 1], .agg #[.int .i64 m.num, .int .i64 (m.den : Int)]] W fun e w' => e = .returned (.tuple #[.agg #[.int .i64 ((X : Rat) + m).num, .int .i64 (((X : Rat) + m).den : Int)], .int .i64 0]) ∧ Below W.heap.size W w') := fun W => add_yes fX fm f1 W
    have HSv1 : Hid (∀ (gs gr : Nat) (W : World), BoxN W gs 26 #[.int .i64 p.num, .int .i64 (p.den : Int), .int .i64 L, .int .i64 1] → Has W gr p.num p.den → _) := fun gs gr W h1 h2 => served_any p (L : Rat) ((X : Rat) + m) fp fL f1 f2 f4 p.num p.den L 1 _ _ _ _ rfl rfl rfl rfl rfl rfl rfl rfl gs gr W h1 h2
    have HSv2 : Hid (∀ (gs gr : Nat) (W : World), BoxN W gs 26 #[.int .i64 p.num, .int .i64 (p.den : Int), .int .i64 L, .int .i64 1] → Has W gr p.num p.den → _) := fun gs gr W h1 h2 => served_any p (L : Rat) (X : Rat) fp fL fX f5 f7 p.num p.den L 1 X 1 _ _ rfl rfl rfl rfl rfl rfl rfl rfl gs gr W h1 h2
    have HMost : Hid (∀ W : World, _) := fun W => add_yes f7 fmb f8 W
    have HC1 : Hid (∀ W : World, _) := fun W => cmp_r ftot f4 W
    have HC2 : Hid (∀ W : World, _) := fun W => cmp_r ftot f8 W
    have hc1 := cmpQ_le.2 hm1
    have hc2 := cmpQ_le.2 hm2
    clear hm1 hm2 hDl hBl gm gmb gX gL g1 g2 g3 g4 q4 g5 g6 g7 g8 gXL f1 f2 f5 fm fmb hlt hgr hgp hP2 gra grb avg bvg gtot hva hvb hra hrb hrs hsml fra frb frr fva fvb fL fX pL pX fp p0
    generalize cmpQ (va + vb) (p * pos ((X : Rat) + m - L)) = k1 at HC1 hc1
    generalize cmpQ (va + vb) (p * pos ((X : Rat) - L) + mb) = k2 at HC2 hc2
    generalize p * pos ((X : Rat) - L) + mb = most at HMost HC2 f8
    generalize p * pos ((X : Rat) - L) = sv2 at HSv2 HMost f7
    generalize p * pos ((X : Rat) + m - L) = sv1 at HSv1 HC1 f4
    generalize (X : Rat) + m = lat at HLat HSv1
    generalize va + vb = tt at HTot HC1 HC2 ftot
    have i0 := (K.get 5 rfl).cell 0
    have i1 := (K.get 5 rfl).cell 1
    go_wp2_with fail
    (with_reducible refine (HRa.out _ _ _ (K.get 8 rfl)).mono ?_); rintro e U7 ⟨rfl, hb⟩
    clear i0 i1
    replace K := (K.keep hb).box (ra.num) (ra.den)
    clear hb
    have i0 := (K.get 6 rfl).cell 0
    have i1 := (K.get 6 rfl).cell 1
    go_wp2_with fail
    (with_reducible refine (HRb.out _ _ _ (K.get 8 rfl)).mono ?_); rintro e U8 ⟨rfl, hb⟩
    clear i0 i1
    replace K := (K.keep hb).box (rb.num) (rb.den)
    clear hb
    have u0 := (K.get 1 rfl).c0
    have u1 := (K.get 1 rfl).c1
    have v0 := (K.get 0 rfl).c0
    have v1 := (K.get 0 rfl).c1
    go_wp2_with fail
    (with_reducible refine (HR2.out _).mono ?_); rintro e U9 ⟨rfl, hb⟩
    clear u0 u1 v0 v1
    replace K := (K.keep hb).box ((ra + rb).num) ((ra + rb).den)
    clear hb
    have u0 := (K.get 0 rfl).c0
    have u1 := (K.get 0 rfl).c1
    have v0 := (K.get 7 rfl).c0
    have v1 := (K.get 7 rfl).c1
    go_wp2_with fail
    (with_reducible refine (HC.out _).mono ?_); rintro e Y ⟨rfl, hb⟩
    clear u0 u1 v0 v1
    replace K := K.keep hb.b
    clear hb
    have x0 := (K.get 5 rfl).c0
    have x1 := (K.get 5 rfl).c1
    have lx := (K.get 5 rfl).lt
    have llb := (K.get 8 rfl).lt
    have i0 := (K.get 8 rfl).cell 0
    have i1 := (K.get 8 rfl).cell 1
    have kA := Lib.hid (K.get 11 rfl)
    have kB := Lib.hid (K.get 10 rfl)
    go_wp2_with fail
    generalize hU4 : U4.heap.size = gx at *
    generalize U5.heap.size = gbd at *
    generalize U6.heap.size = gst at *
    generalize U7.heap.size = gra at *
    generalize U8.heap.size = grb at *
    generalize U9.heap.size = grr at *
    have hkd : decide (0 < kk) = false := decide_eq_false (by omega)
    simp only [hkd]
    refine wp_region_inv (Inv := fun Lb a W => ∃ (b0 b1 b2 b3 b4 b5 b6 b7 b8 b9 b10 : Bool) (G8 : Nat), Lb = #[b0, b1, b2, b3, b4, b5, b6, b7, b8, b9, b10] ∧ a = { tmps := #[Value.slice A zs.length cap, Value.slice B us.length cap2, Value.int IntKind.u8 r, Value.int IntKind.u8 d, Value.int IntKind.u16 t, undef, undef, undef, undef, undef, Value.bool false, Value.slice (some ⟨g11, 0, none⟩) 2 2, Value.pointer (some ⟨g12, 0, none⟩), Value.int IntKind.i64 0, Value.pointer (some ⟨G6, 0, none⟩), Value.pointer (some ⟨gx, 0, none⟩), Value.int IntKind.i64 0, Value.pointer (some ⟨gbd, 0, none⟩), Value.int IntKind.i64 0, Value.pointer (some ⟨gst, 0, none⟩), Value.int IntKind.i64 0, Value.pointer (some ⟨gra, 0, none⟩), Value.int IntKind.i64 0, Value.pointer (some ⟨grb, 0, none⟩), Value.int IntKind.i64 0, Value.pointer (some ⟨grr, 0, none⟩), Value.int IntKind.i64 0, (bif b8 then .pointer (some ⟨G8, 0, none⟩) else undef), undef, undef, undef, undef, undef, undef, undef, undef, undef, undef, undef, Value.slice A zs.length cap, Value.slice Aa na ca, Value.slice B us.length cap2, Value.slice Ab nb cb, Value.slice (some ⟨g11, 0, none⟩) 2 2, Value.tuple #[Value.agg #[Value.int IntKind.i64 p.num, Value.int IntKind.i64 ↑p.den], Value.int IntKind.i64 0], Value.int IntKind.u8 r, Value.int IntKind.i64 r, Value.int IntKind.i64 (r % 160), Value.int IntKind.i64 P, Value.tuple #[Value.agg #[Value.int IntKind.i64 p.num, Value.int IntKind.i64 ↑p.den], Value.int IntKind.i64 0], Value.agg #[Value.int IntKind.i64 p.num, Value.int IntKind.i64 ↑p.den], Value.int IntKind.i64 0, Value.agg #[Value.int IntKind.i64 p.num, Value.int IntKind.i64 ↑p.den], Value.int IntKind.u8 d, Value.int IntKind.i64 d, Value.int IntKind.i64 L, Value.agg #[Value.int IntKind.i64 L, Value.int IntKind.i64 1], Value.agg #[Value.int IntKind.i64 p.num, Value.int IntKind.i64 ↑p.den, Value.int IntKind.i64 L, Value.int IntKind.i64 1], Value.tuple #[Value.agg #[Value.int IntKind.i64 X, Value.int IntKind.i64 1], Value.int IntKind.i64 0], Value.int IntKind.u16 t, Value.int IntKind.i64 t, Value.int IntKind.i64 X, Value.tuple #[Value.agg #[Value.int IntKind.i64 X, Value.int IntKind.i64 1], Value.int IntKind.i64 0], Value.agg #[Value.int IntKind.i64 X, Value.int IntKind.i64 1], Value.int IntKind.i64 0, Value.tuple #[Value.agg #[Value.int IntKind.i64 m.num, Value.int IntKind.i64 ↑m.den], Value.int IntKind.i64 0], Value.slice (some ⟨g11, 0, none⟩) 2 2, Value.agg #[Value.int IntKind.i64 p.num, Value.int IntKind.i64 ↑p.den, Value.int IntKind.i64 L, Value.int IntKind.i64 1], Value.tuple #[Value.agg #[Value.int IntKind.i64 m.num, Value.int IntKind.i64 ↑m.den], Value.int IntKind.i64 0], Value.agg #[Value.int IntKind.i64 m.num, Value.int IntKind.i64 ↑m.den], Value.int IntKind.i64 0, Value.tuple #[Value.agg #[Value.int IntKind.i64 mb.num, Value.int IntKind.i64 ↑mb.den], Value.int IntKind.i64 0], Value.slice (some ⟨g11, 0, none⟩) 2 2, Value.agg #[Value.int IntKind.i64 p.num, Value.int IntKind.i64 ↑p.den, Value.int IntKind.i64 L, Value.int IntKind.i64 1], Value.tuple #[Value.agg #[Value.int IntKind.i64 mb.num, Value.int IntKind.i64 ↑mb.den], Value.int IntKind.i64 0], Value.agg #[Value.int IntKind.i64 mb.num, Value.int IntKind.i64 ↑mb.den], Value.int IntKind.i64 0, Value.int IntKind.i64 0, Value.bool false, Value.bool false, Value.int IntKind.i64 0, Value.bool false, Value.bool false, Value.bool false, Value.int IntKind.i64 0, Value.int IntKind.i64 0, Value.bool false, Value.bool false, Value.tuple #[Value.agg #[Value.int IntKind.i64 ra.num, Value.int IntKind.i64 ↑ra.den], Value.int IntKind.i64 0], Value.slice (some ⟨g11, 0, none⟩) 2 2, Value.pointer (some ⟨g11, 0, none⟩), Value.slice Aa na ca, Value.tuple #[Value.agg #[Value.int IntKind.i64 ra.num, Value.int IntKind.i64 ↑ra.den], Value.int IntKind.i64 0], Value.agg #[Value.int IntKind.i64 ra.num, Value.int IntKind.i64 ↑ra.den], Value.int IntKind.i64 0, Value.tuple #[Value.agg #[Value.int IntKind.i64 rb.num, Value.int IntKind.i64 ↑rb.den], Value.int IntKind.i64 0], Value.slice (some ⟨g11, 0, none⟩) 2 2, Value.pointer (some ⟨g11, 1, none⟩), Value.slice Ab nb cb, Value.tuple #[Value.agg #[Value.int IntKind.i64 rb.num, Value.int IntKind.i64 ↑rb.den], Value.int IntKind.i64 0], Value.agg #[Value.int IntKind.i64 rb.num, Value.int IntKind.i64 ↑rb.den], Value.int IntKind.i64 0, Value.tuple #[Value.agg #[Value.int IntKind.i64 (ra + rb).num, Value.int IntKind.i64 ↑(ra + rb).den], Value.int IntKind.i64 0], Value.agg #[Value.int IntKind.i64 ra.num, Value.int IntKind.i64 ↑ra.den], Value.agg #[Value.int IntKind.i64 rb.num, Value.int IntKind.i64 ↑rb.den], Value.tuple #[Value.agg #[Value.int IntKind.i64 (ra + rb).num, Value.int IntKind.i64 ↑(ra + rb).den], Value.int IntKind.i64 0], Value.agg #[Value.int IntKind.i64 (ra + rb).num, Value.int IntKind.i64 ↑(ra + rb).den], Value.int IntKind.i64 0, Value.int IntKind.i64 0, Value.int IntKind.i64 0, Value.int IntKind.i64 0, Value.int IntKind.i64 0, Value.int IntKind.i64 0, Value.bool false, Value.bool false, Value.int IntKind.i64 0, Value.bool false, Value.agg #[Value.int IntKind.i64 (ra + rb).num, Value.int IntKind.i64 ↑(ra + rb).den], Value.agg #[Value.int IntKind.i64 p.num, Value.int IntKind.i64 ↑p.den], Value.int IntKind.i64 kk, Value.bool false, Value.bool false, Value.bool false, Value.int IntKind.i64 0, Value.bool false, undef, undef, undef, undef, undef, (bif b5 then .tuple #[.agg #[.int .i64 va.num, .int .i64 (va.den : Int)], .int .i64 0] else undef), (bif b0 then .slice (some ⟨g11, 0, none⟩) 2 2 else undef), (bif b1 then .pointer (some ⟨g11, 0, none⟩) else undef), (bif b2 then .slice Aa na ca else undef), (bif b3 then .agg #[.int .i64 X, .int .i64 1] else undef), (bif b4 then .tuple #[.agg #[.int .i64 va.num, .int .i64 (va.den : Int)], .int .i64 0] else undef), (bif b6 then .agg #[.int .i64 va.num, .int .i64 (va.den : Int)] else undef), (bif b7 then .int .i64 0 else undef), undef, undef, undef, undef, undef, undef, undef, undef, undef, undef, undef, undef, undef, undef, undef, undef, undef, undef, undef, undef, undef, undef, undef, undef, undef, undef, undef, undef, undef, undef, undef, undef, undef, undef, undef, undef, undef, undef, undef, undef, undef, undef, undef, undef, undef, undef, undef, undef, undef, undef, undef, undef, undef, undef, undef, undef, undef, undef, undef, undef, undef, undef, undef, undef, undef, undef, undef, undef, undef, undef, undef, undef], defers := [] } ∧ (b9 = true → b8 = true) ∧ Below Y.heap.size Y W ∧ (b8 = true → Y.heap.size ≤ G8 ∧ G8 < W.heap.size ∧ (b9 = false → BoxN W G8 24 #[.int .i64 0, .int .i64 0]) ∧ (b9 = true → BoxN W G8 24 #[.int .i64 va.num, .int .i64 (va.den : Int)]))) (by kernel_rfl) (down_of (by decide +kernel)) ?start ?size ?done ?step
    case start => exact ⟨false, false, false, false, false, false, false, false, false, false, false, 0, rfl, rfl, by simp, (Below.refl _ _).drew, by simp⟩
    case size =>
      rintro Lb aR W ⟨b0, b1, b2, b3, b4, b5, b6, b7, b8, b9, b10, G8, rfl, -⟩
      rfl
    case step =>
      rintro Lb aR W i o ⟨b0, b1, b2, b3, b4, b5, b6, b7, b8, b9, b10, G8, rfl, rfl, p9, f0, f1⟩ ho hl' hdep
      have hi' : i < 11 := (Array.getElem?_eq_some_iff.1 ho).1
      have hi2 : i = 0 ∨ i = 1 ∨ i = 2 ∨ i = 3 ∨ i = 4 ∨ i = 5 ∨ i = 6 ∨ i = 7 ∨ i = 8 ∨ i = 9 ∨ i = 10 := by omega
      clear hi'
      replace p9 := Lib.hid p9
      replace f0 := Lib.hid f0
      replace f1 := Lib.hid f1
      rcases hi2 with rfl | rfl | rfl | rfl | rfl | rfl | rfl | rfl | rfl | rfl | rfl
      · cases ho
        obtain rfl : b0 = false := hl'
        clear hdep
        refine wpOp_step rfl (fun K hK => ?_)
        go_simp
        refine hK _ _ ?_; clear hK K
        exact ⟨true, b1, b2, b3, b4, b5, b6, b7, b8, b9, b10, G8, rfl, rfl, p9.out, f0.out, f1.out⟩
      · cases ho
        obtain rfl : b1 = false := hl'
        obtain rfl : b0 = true := hdep ⟨0, .data⟩ (by simp) rfl
        clear hdep
        refine wpOp_step rfl (fun K hK => ?_)
        simp only [cond_true]
        go_simp
        refine hK _ _ ?_; clear hK K
        exact ⟨true, true, b2, b3, b4, b5, b6, b7, b8, b9, b10, G8, rfl, rfl, p9.out, f0.out, f1.out⟩
      · cases ho
        obtain rfl : b2 = false := hl'
        obtain rfl : b1 = true := hdep ⟨1, .data⟩ (by simp) rfl
        clear hdep
        have c0 := (f0.out.cell (llb)).trans i0
        refine wpOp_step rfl (fun K hK => ?_)
        simp only [cond_true]
        go_simp
        refine hK _ _ ?_; clear hK K
        exact ⟨b0, true, true, b3, b4, b5, b6, b7, b8, b9, b10, G8, rfl, rfl, p9.out, f0.out, f1.out⟩
      · cases ho
        obtain rfl : b3 = false := hl'
        clear hdep
        have c0 := (f0.out.cell (lx)).trans x0
        have c1 := (f0.out.cell (lx)).trans x1
        refine wpOp_step rfl (fun K hK => ?_)
        go_simp
        refine hK _ _ ?_; clear hK K
        exact ⟨b0, b1, b2, true, b4, b5, b6, b7, b8, b9, b10, G8, rfl, rfl, p9.out, f0.out, f1.out⟩
      · cases ho
        obtain rfl : b4 = false := hl'
        obtain rfl : b2 = true := hdep ⟨2, .data⟩ (by simp) rfl
        obtain rfl : b3 = true := hdep ⟨3, .data⟩ (by simp) rfl
        clear hdep
        have hcl := cl_isC Aa ca a Y W kA.out f0.out
        refine wpOp_step rfl (fun K hK => ?_)
        simp only [cond_true]
        go_simp
        (with_reducible refine (HVa.out _ _ _ hcl).mono ?_); rintro e w4 ⟨rfl, hb⟩
        refine hK _ _ ?_; clear hK K
        exact ⟨b0, b1, true, true, true, b5, b6, b7, b8, b9, b10, G8, rfl, rfl, p9.out, f0.out.trans (hb.mono f0.out.size), fun h => ⟨(f1.out h).1, Nat.lt_of_lt_of_le (f1.out h).2.1 hb.size, fun e => ((f1.out h).2.2.1 e).below hb (f1.out h).2.1, fun e => ((f1.out h).2.2.2 e).below hb (f1.out h).2.1⟩⟩
      · cases ho
        obtain rfl : b5 = false := hl'
        obtain rfl : b4 = true := hdep ⟨4, .data⟩ (by simp) rfl
        clear hdep
        refine wpOp_step rfl (fun K hK => ?_)
        simp only [cond_true]
        go_simp
        refine hK _ _ ?_; clear hK K
        exact ⟨b0, b1, b2, b3, true, true, b6, b7, b8, b9, b10, G8, rfl, rfl, p9.out, f0.out, f1.out⟩
      · cases ho
        obtain rfl : b6 = false := hl'
        obtain rfl : b5 = true := hdep ⟨5, .data⟩ (by simp) rfl
        clear hdep
        refine wpOp_step rfl (fun K hK => ?_)
        simp only [cond_true]
        go_simp
        refine hK _ _ ?_; clear hK K
        exact ⟨b0, b1, b2, b3, b4, true, true, b7, b8, b9, b10, G8, rfl, rfl, p9.out, f0.out, f1.out⟩
      · cases ho
        obtain rfl : b7 = false := hl'
        obtain rfl : b5 = true := hdep ⟨5, .data⟩ (by simp) rfl
        clear hdep
        refine wpOp_step rfl (fun K hK => ?_)
        simp only [cond_true]
        go_simp
        refine hK _ _ ?_; clear hK K
        exact ⟨b0, b1, b2, b3, b4, true, b6, true, b8, b9, b10, G8, rfl, rfl, p9.out, f0.out, f1.out⟩
      · cases ho
        obtain rfl : b8 = false := hl'
        clear hdep
        obtain rfl : b9 = false := by cases b9 with | false => rfl | true => exact absurd (p9.out rfl) (by simp)
        refine wpOp_step rfl (fun K hK => ?_)
        go_simp
        refine hK _ _ ?_; clear hK K
        exact ⟨b0, b1, b2, b3, b4, b5, b6, b7, true, false, b10, W.heap.size, rfl, rfl, by simp, f0.out.alloc f0.out.size _, fun _ => ⟨f0.out.size, by simp, fun _ => BoxN.new W 24 #[.int .i64 0, .int .i64 0], by simp⟩⟩
      · cases ho
        obtain rfl : b9 = false := hl'
        obtain rfl : b8 = true := hdep ⟨8, .data⟩ (by simp) rfl
        obtain rfl : b6 = true := hdep ⟨6, .data⟩ (by simp) rfl
        clear hdep
        obtain ⟨hle, hlt, hbz, -⟩ := f1.out rfl
        have bS := hbz rfl
        clear hbz
        have z0 := bS.cell 0
        have y0 := bS.frozen 0
        have z1 := bS.cell 1
        have y1 := bS.frozen 1
        refine wpOp_step rfl (fun K hK => ?_)
        simp only [cond_true]
        go_simp
        refine hK _ _ ?_; clear hK K
        exact ⟨b0, b1, b2, b3, b4, b5, true, b7, true, true, b10, G8, rfl, rfl, by simp, ((f0.out.setCell (p := ⟨G8, 0, none⟩) hle (.int .i64 va.num)).setCell (p := ⟨G8, 1, none⟩) hle (.int .i64 (va.den : Int))), fun _ => ⟨hle, by simpa using hlt, by simp, fun _ => bS.set2 (.int .i64 va.num) (.int .i64 (va.den : Int))⟩⟩
      · cases ho
        obtain rfl : b10 = false := hl'
        obtain rfl : b7 = true := hdep ⟨7, .data⟩ (by simp) rfl
        clear hdep
        refine wpOp_step rfl (fun K hK => ?_)
        simp only [cond_true]
        go_simp
        refine hK _ _ ?_; clear hK K
        exact ⟨b0, b1, b2, b3, b4, b5, b6, true, b8, b9, true, G8, rfl, rfl, p9.out, f0.out, f1.out⟩
    case done =>
      rintro Lb aR W ⟨j0, j1, j2, j3, j4, j5, j6, j7, j8, j9, j10, G8, rfl, rfl, -, f0, f1⟩ hall
      obtain rfl : j0 = true := hall 0 (by decide)
      obtain rfl : j1 = true := hall 1 (by decide)
      obtain rfl : j2 = true := hall 2 (by decide)
      obtain rfl : j3 = true := hall 3 (by decide)
      obtain rfl : j4 = true := hall 4 (by decide)
      obtain rfl : j5 = true := hall 5 (by decide)
      obtain rfl : j6 = true := hall 6 (by decide)
      obtain rfl : j7 = true := hall 7 (by decide)
      obtain rfl : j8 = true := hall 8 (by decide)
      obtain rfl : j9 = true := hall 9 (by decide)
      obtain rfl : j10 = true := hall 10 (by decide)
      clear hall
      obtain ⟨-, -, -, hbv⟩ := f1 rfl
      replace hbv := hbv rfl
      replace K := (K.keep f0).add (cl_isR G8 _ _) ⟨hbv.lt, hbv.cell 0, hbv.cell 1⟩
      clear f0 f1 hbv x0 x1 lx llb i0 i1 kA kB
      simp only [cond_true]
      have x0 := (K.get 6 rfl).c0
      have x1 := (K.get 6 rfl).c1
      have lx := (K.get 6 rfl).lt
      have llb := (K.get 9 rfl).lt
      have i0 := (K.get 9 rfl).cell 0
      have i1 := (K.get 9 rfl).cell 1
      have kB := Lib.hid (K.get 11 rfl)
      have kA := Lib.hid (K.get 12 rfl)
      obtain ⟨Y2, hY2⟩ : ∃ Y2, Y2 = W := ⟨_, rfl⟩
      obtain ⟨gva, hgva⟩ : ∃ g, g = G8 := ⟨_, rfl⟩
      subst hY2 hgva
      go_wp2_with fail
      refine wp_region_inv (Inv := fun Lb a W => ∃ (b0 b1 b2 b3 b4 b5 b6 b7 b8 b9 b10 : Bool) (G8 : Nat), Lb = #[b0, b1, b2, b3, b4, b5, b6, b7, b8, b9, b10] ∧ a = { tmps := #[Value.slice A zs.length cap, Value.slice B us.length cap2, Value.int IntKind.u8 r, Value.int IntKind.u8 d, Value.int IntKind.u16 t, undef, undef, undef, undef, undef, Value.bool false, Value.slice (some ⟨g11, 0, none⟩) 2 2, Value.pointer (some ⟨g12, 0, none⟩), Value.int IntKind.i64 0, Value.pointer (some ⟨G6, 0, none⟩), Value.pointer (some ⟨gx, 0, none⟩), Value.int IntKind.i64 0, Value.pointer (some ⟨gbd, 0, none⟩), Value.int IntKind.i64 0, Value.pointer (some ⟨gst, 0, none⟩), Value.int IntKind.i64 0, Value.pointer (some ⟨gra, 0, none⟩), Value.int IntKind.i64 0, Value.pointer (some ⟨grb, 0, none⟩), Value.int IntKind.i64 0, Value.pointer (some ⟨grr, 0, none⟩), Value.int IntKind.i64 0, Value.pointer (some ⟨gva, 0, none⟩), (bif b8 then .pointer (some ⟨G8, 0, none⟩) else undef), undef, undef, undef, undef, undef, undef, undef, undef, undef, undef, Value.slice A zs.length cap, Value.slice Aa na ca, Value.slice B us.length cap2, Value.slice Ab nb cb, Value.slice (some ⟨g11, 0, none⟩) 2 2, Value.tuple #[Value.agg #[Value.int IntKind.i64 p.num, Value.int IntKind.i64 ↑p.den], Value.int IntKind.i64 0], Value.int IntKind.u8 r, Value.int IntKind.i64 r, Value.int IntKind.i64 (r % 160), Value.int IntKind.i64 P, Value.tuple #[Value.agg #[Value.int IntKind.i64 p.num, Value.int IntKind.i64 ↑p.den], Value.int IntKind.i64 0], Value.agg #[Value.int IntKind.i64 p.num, Value.int IntKind.i64 ↑p.den], Value.int IntKind.i64 0, Value.agg #[Value.int IntKind.i64 p.num, Value.int IntKind.i64 ↑p.den], Value.int IntKind.u8 d, Value.int IntKind.i64 d, Value.int IntKind.i64 L, Value.agg #[Value.int IntKind.i64 L, Value.int IntKind.i64 1], Value.agg #[Value.int IntKind.i64 p.num, Value.int IntKind.i64 ↑p.den, Value.int IntKind.i64 L, Value.int IntKind.i64 1], Value.tuple #[Value.agg #[Value.int IntKind.i64 X, Value.int IntKind.i64 1], Value.int IntKind.i64 0], Value.int IntKind.u16 t, Value.int IntKind.i64 t, Value.int IntKind.i64 X, Value.tuple #[Value.agg #[Value.int IntKind.i64 X, Value.int IntKind.i64 1], Value.int IntKind.i64 0], Value.agg #[Value.int IntKind.i64 X, Value.int IntKind.i64 1], Value.int IntKind.i64 0, Value.tuple #[Value.agg #[Value.int IntKind.i64 m.num, Value.int IntKind.i64 ↑m.den], Value.int IntKind.i64 0], Value.slice (some ⟨g11, 0, none⟩) 2 2, Value.agg #[Value.int IntKind.i64 p.num, Value.int IntKind.i64 ↑p.den, Value.int IntKind.i64 L, Value.int IntKind.i64 1], Value.tuple #[Value.agg #[Value.int IntKind.i64 m.num, Value.int IntKind.i64 ↑m.den], Value.int IntKind.i64 0], Value.agg #[Value.int IntKind.i64 m.num, Value.int IntKind.i64 ↑m.den], Value.int IntKind.i64 0, Value.tuple #[Value.agg #[Value.int IntKind.i64 mb.num, Value.int IntKind.i64 ↑mb.den], Value.int IntKind.i64 0], Value.slice (some ⟨g11, 0, none⟩) 2 2, Value.agg #[Value.int IntKind.i64 p.num, Value.int IntKind.i64 ↑p.den, Value.int IntKind.i64 L, Value.int IntKind.i64 1], Value.tuple #[Value.agg #[Value.int IntKind.i64 mb.num, Value.int IntKind.i64 ↑mb.den], Value.int IntKind.i64 0], Value.agg #[Value.int IntKind.i64 mb.num, Value.int IntKind.i64 ↑mb.den], Value.int IntKind.i64 0, Value.int IntKind.i64 0, Value.bool false, Value.bool false, Value.int IntKind.i64 0, Value.bool false, Value.bool false, Value.bool false, Value.int IntKind.i64 0, Value.int IntKind.i64 0, Value.bool false, Value.bool false, Value.tuple #[Value.agg #[Value.int IntKind.i64 ra.num, Value.int IntKind.i64 ↑ra.den], Value.int IntKind.i64 0], Value.slice (some ⟨g11, 0, none⟩) 2 2, Value.pointer (some ⟨g11, 0, none⟩), Value.slice Aa na ca, Value.tuple #[Value.agg #[Value.int IntKind.i64 ra.num, Value.int IntKind.i64 ↑ra.den], Value.int IntKind.i64 0], Value.agg #[Value.int IntKind.i64 ra.num, Value.int IntKind.i64 ↑ra.den], Value.int IntKind.i64 0, Value.tuple #[Value.agg #[Value.int IntKind.i64 rb.num, Value.int IntKind.i64 ↑rb.den], Value.int IntKind.i64 0], Value.slice (some ⟨g11, 0, none⟩) 2 2, Value.pointer (some ⟨g11, 1, none⟩), Value.slice Ab nb cb, Value.tuple #[Value.agg #[Value.int IntKind.i64 rb.num, Value.int IntKind.i64 ↑rb.den], Value.int IntKind.i64 0], Value.agg #[Value.int IntKind.i64 rb.num, Value.int IntKind.i64 ↑rb.den], Value.int IntKind.i64 0, Value.tuple #[Value.agg #[Value.int IntKind.i64 (ra + rb).num, Value.int IntKind.i64 ↑(ra + rb).den], Value.int IntKind.i64 0], Value.agg #[Value.int IntKind.i64 ra.num, Value.int IntKind.i64 ↑ra.den], Value.agg #[Value.int IntKind.i64 rb.num, Value.int IntKind.i64 ↑rb.den], Value.tuple #[Value.agg #[Value.int IntKind.i64 (ra + rb).num, Value.int IntKind.i64 ↑(ra + rb).den], Value.int IntKind.i64 0], Value.agg #[Value.int IntKind.i64 (ra + rb).num, Value.int IntKind.i64 ↑(ra + rb).den], Value.int IntKind.i64 0, Value.int IntKind.i64 0, Value.int IntKind.i64 0, Value.int IntKind.i64 0, Value.int IntKind.i64 0, Value.int IntKind.i64 0, Value.bool false, Value.bool false, Value.int IntKind.i64 0, Value.bool false, Value.agg #[Value.int IntKind.i64 (ra + rb).num, Value.int IntKind.i64 ↑(ra + rb).den], Value.agg #[Value.int IntKind.i64 p.num, Value.int IntKind.i64 ↑p.den], Value.int IntKind.i64 kk, Value.bool false, Value.bool false, Value.bool false, Value.int IntKind.i64 0, Value.bool false, undef, undef, undef, undef, undef, Value.tuple #[Value.agg #[Value.int IntKind.i64 va.num, Value.int IntKind.i64 ↑va.den], Value.int IntKind.i64 0], Value.slice (some ⟨g11, 0, none⟩) 2 2, Value.pointer (some ⟨g11, 0, none⟩), Value.slice Aa na ca, Value.agg #[Value.int IntKind.i64 X, Value.int IntKind.i64 1], Value.tuple #[Value.agg #[Value.int IntKind.i64 va.num, Value.int IntKind.i64 ↑va.den], Value.int IntKind.i64 0], Value.agg #[Value.int IntKind.i64 va.num, Value.int IntKind.i64 ↑va.den], Value.int IntKind.i64 0, (bif b5 then .tuple #[.agg #[.int .i64 vb.num, .int .i64 (vb.den : Int)], .int .i64 0] else undef), (bif b0 then .slice (some ⟨g11, 0, none⟩) 2 2 else undef), (bif b1 then .pointer (some ⟨g11, 1, none⟩) else undef), (bif b2 then .slice Ab nb cb else undef), (bif b3 then .agg #[.int .i64 X, .int .i64 1] else undef), (bif b4 then .tuple #[.agg #[.int .i64 vb.num, .int .i64 (vb.den : Int)], .int .i64 0] else undef), (bif b6 then .agg #[.int .i64 vb.num, .int .i64 (vb.den : Int)] else undef), (bif b7 then .int .i64 0 else undef), undef, undef, undef, undef, undef, undef, undef, undef, undef, undef, undef, undef, undef, undef, undef, undef, undef, undef, undef, undef, undef, undef, undef, undef, undef, undef, undef, undef, undef, undef, undef, undef, undef, undef, undef, undef, undef, undef, undef, undef, undef, undef, undef, undef, undef, undef, undef, undef, undef, undef, undef, undef, undef, undef, undef, undef, undef, undef, undef, undef, undef, undef, undef, undef], defers := [] } ∧ (b9 = true → b8 = true) ∧ Below Y2.heap.size Y2 W ∧ (b8 = true → Y2.heap.size ≤ G8 ∧ G8 < W.heap.size ∧ (b9 = false → BoxN W G8 24 #[.int .i64 0, .int .i64 0]) ∧ (b9 = true → BoxN W G8 24 #[.int .i64 vb.num, .int .i64 (vb.den : Int)]))) (by kernel_rfl) (down_of (by decide +kernel)) ?start ?size ?done ?step
      case start => exact ⟨false, false, false, false, false, false, false, false, false, false, false, 0, rfl, rfl, by simp, (Below.refl _ _).drew, by simp⟩
      case size =>
        rintro Lb aR W ⟨b0, b1, b2, b3, b4, b5, b6, b7, b8, b9, b10, G8, rfl, -⟩
        rfl
      case step =>
        rintro Lb aR W i o ⟨b0, b1, b2, b3, b4, b5, b6, b7, b8, b9, b10, G8, rfl, rfl, p9, f0, f1⟩ ho hl' hdep
        have hi' : i < 11 := (Array.getElem?_eq_some_iff.1 ho).1
        have hi2 : i = 0 ∨ i = 1 ∨ i = 2 ∨ i = 3 ∨ i = 4 ∨ i = 5 ∨ i = 6 ∨ i = 7 ∨ i = 8 ∨ i = 9 ∨ i = 10 := by omega
        clear hi'
        replace p9 := Lib.hid p9
        replace f0 := Lib.hid f0
        replace f1 := Lib.hid f1
        rcases hi2 with rfl | rfl | rfl | rfl | rfl | rfl | rfl | rfl | rfl | rfl | rfl
        · cases ho
          obtain rfl : b0 = false := hl'
          clear hdep
          refine wpOp_step rfl (fun K hK => ?_)
          go_simp
          refine hK _ _ ?_; clear hK K
          exact ⟨true, b1, b2, b3, b4, b5, b6, b7, b8, b9, b10, G8, rfl, rfl, p9.out, f0.out, f1.out⟩
        · cases ho
          obtain rfl : b1 = false := hl'
          obtain rfl : b0 = true := hdep ⟨0, .data⟩ (by simp) rfl
          clear hdep
          refine wpOp_step rfl (fun K hK => ?_)
          simp only [cond_true]
          go_simp
          refine hK _ _ ?_; clear hK K
          exact ⟨true, true, b2, b3, b4, b5, b6, b7, b8, b9, b10, G8, rfl, rfl, p9.out, f0.out, f1.out⟩
        · cases ho
          obtain rfl : b2 = false := hl'
          obtain rfl : b1 = true := hdep ⟨1, .data⟩ (by simp) rfl
          clear hdep
          have c0 := (f0.out.cell (llb)).trans i1
          refine wpOp_step rfl (fun K hK => ?_)
          simp only [cond_true]
          go_simp
          refine hK _ _ ?_; clear hK K
          exact ⟨b0, true, true, b3, b4, b5, b6, b7, b8, b9, b10, G8, rfl, rfl, p9.out, f0.out, f1.out⟩
        · cases ho
          obtain rfl : b3 = false := hl'
          clear hdep
          have c0 := (f0.out.cell (lx)).trans x0
          have c1 := (f0.out.cell (lx)).trans x1
          refine wpOp_step rfl (fun K hK => ?_)
          go_simp
          refine hK _ _ ?_; clear hK K
          exact ⟨b0, b1, b2, true, b4, b5, b6, b7, b8, b9, b10, G8, rfl, rfl, p9.out, f0.out, f1.out⟩
        · cases ho
          obtain rfl : b4 = false := hl'
          obtain rfl : b2 = true := hdep ⟨2, .data⟩ (by simp) rfl
          obtain rfl : b3 = true := hdep ⟨3, .data⟩ (by simp) rfl
          clear hdep
          have hcl := cl_isC Ab cb b Y2 W kB.out f0.out
          refine wpOp_step rfl (fun K hK => ?_)
          simp only [cond_true]
          go_simp
          (with_reducible refine (HVb.out _ _ _ hcl).mono ?_); rintro e w4 ⟨rfl, hb⟩
          refine hK _ _ ?_; clear hK K
          exact ⟨b0, b1, true, true, true, b5, b6, b7, b8, b9, b10, G8, rfl, rfl, p9.out, f0.out.trans (hb.mono f0.out.size), fun h => ⟨(f1.out h).1, Nat.lt_of_lt_of_le (f1.out h).2.1 hb.size, fun e => ((f1.out h).2.2.1 e).below hb (f1.out h).2.1, fun e => ((f1.out h).2.2.2 e).below hb (f1.out h).2.1⟩⟩
        · cases ho
          obtain rfl : b5 = false := hl'
          obtain rfl : b4 = true := hdep ⟨4, .data⟩ (by simp) rfl
          clear hdep
          refine wpOp_step rfl (fun K hK => ?_)
          simp only [cond_true]
          go_simp
          refine hK _ _ ?_; clear hK K
          exact ⟨b0, b1, b2, b3, true, true, b6, b7, b8, b9, b10, G8, rfl, rfl, p9.out, f0.out, f1.out⟩
        · cases ho
          obtain rfl : b6 = false := hl'
          obtain rfl : b5 = true := hdep ⟨5, .data⟩ (by simp) rfl
          clear hdep
          refine wpOp_step rfl (fun K hK => ?_)
          simp only [cond_true]
          go_simp
          refine hK _ _ ?_; clear hK K
          exact ⟨b0, b1, b2, b3, b4, true, true, b7, b8, b9, b10, G8, rfl, rfl, p9.out, f0.out, f1.out⟩
        · cases ho
          obtain rfl : b7 = false := hl'
          obtain rfl : b5 = true := hdep ⟨5, .data⟩ (by simp) rfl
          clear hdep
          refine wpOp_step rfl (fun K hK => ?_)
          simp only [cond_true]
          go_simp
          refine hK _ _ ?_; clear hK K
          exact ⟨b0, b1, b2, b3, b4, true, b6, true, b8, b9, b10, G8, rfl, rfl, p9.out, f0.out, f1.out⟩
        · cases ho
          obtain rfl : b8 = false := hl'
          clear hdep
          obtain rfl : b9 = false := by cases b9 with | false => rfl | true => exact absurd (p9.out rfl) (by simp)
          refine wpOp_step rfl (fun K hK => ?_)
          go_simp
          refine hK _ _ ?_; clear hK K
          exact ⟨b0, b1, b2, b3, b4, b5, b6, b7, true, false, b10, W.heap.size, rfl, rfl, by simp, f0.out.alloc f0.out.size _, fun _ => ⟨f0.out.size, by simp, fun _ => BoxN.new W 24 #[.int .i64 0, .int .i64 0], by simp⟩⟩
        · cases ho
          obtain rfl : b9 = false := hl'
          obtain rfl : b8 = true := hdep ⟨8, .data⟩ (by simp) rfl
          obtain rfl : b6 = true := hdep ⟨6, .data⟩ (by simp) rfl
          clear hdep
          obtain ⟨hle, hlt, hbz, -⟩ := f1.out rfl
          have bS := hbz rfl
          clear hbz
          have z0 := bS.cell 0
          have y0 := bS.frozen 0
          have z1 := bS.cell 1
          have y1 := bS.frozen 1
          refine wpOp_step rfl (fun K hK => ?_)
          simp only [cond_true]
          go_simp
          refine hK _ _ ?_; clear hK K
          exact ⟨b0, b1, b2, b3, b4, b5, true, b7, true, true, b10, G8, rfl, rfl, by simp, ((f0.out.setCell (p := ⟨G8, 0, none⟩) hle (.int .i64 vb.num)).setCell (p := ⟨G8, 1, none⟩) hle (.int .i64 (vb.den : Int))), fun _ => ⟨hle, by simpa using hlt, by simp, fun _ => bS.set2 (.int .i64 vb.num) (.int .i64 (vb.den : Int))⟩⟩
        · cases ho
          obtain rfl : b10 = false := hl'
          obtain rfl : b7 = true := hdep ⟨7, .data⟩ (by simp) rfl
          clear hdep
          refine wpOp_step rfl (fun K hK => ?_)
          simp only [cond_true]
          go_simp
          refine hK _ _ ?_; clear hK K
          exact ⟨b0, b1, b2, b3, b4, b5, b6, true, b8, b9, true, G8, rfl, rfl, p9.out, f0.out, f1.out⟩
      case done =>
        rintro Lb aR W ⟨j0, j1, j2, j3, j4, j5, j6, j7, j8, j9, j10, G8, rfl, rfl, -, f0, f1⟩ hall
        obtain rfl : j0 = true := hall 0 (by decide)
        obtain rfl : j1 = true := hall 1 (by decide)
        obtain rfl : j2 = true := hall 2 (by decide)
        obtain rfl : j3 = true := hall 3 (by decide)
        obtain rfl : j4 = true := hall 4 (by decide)
        obtain rfl : j5 = true := hall 5 (by decide)
        obtain rfl : j6 = true := hall 6 (by decide)
        obtain rfl : j7 = true := hall 7 (by decide)
        obtain rfl : j8 = true := hall 8 (by decide)
        obtain rfl : j9 = true := hall 9 (by decide)
        obtain rfl : j10 = true := hall 10 (by decide)
        clear hall
        obtain ⟨-, -, -, hbv⟩ := f1 rfl
        replace hbv := hbv rfl
        replace K := (K.keep f0).add (cl_isR G8 _ _) ⟨hbv.lt, hbv.cell 0, hbv.cell 1⟩
        clear f0 f1 hbv x0 x1 lx llb i0 i1 kA kB
        simp only [cond_true]
        obtain ⟨Y3, hY3⟩ : ∃ Y3, Y3 = W := ⟨_, rfl⟩
        obtain ⟨gvb, hgvb⟩ : ∃ g, g = G8 := ⟨_, rfl⟩
        subst hY3 hgvb
        have u0 := (K.get 1 rfl).c0
        have u1 := (K.get 1 rfl).c1
        have v0 := (K.get 0 rfl).c0
        have v1 := (K.get 0 rfl).c1
        go_wp2_with fail
        (with_reducible refine (HTot.out _).mono ?_); rintro e V1 ⟨rfl, hb⟩
        clear u0 u1 v0 v1
        replace K := (K.keep hb).box (tt.num) (tt.den)
        clear hb
        have u0 := (K.get 8 rfl).c0
        have u1 := (K.get 8 rfl).c1
        have v0 := (K.get 7 rfl).c0
        have v1 := (K.get 7 rfl).c1
        go_wp2_with fail
        (with_reducible refine (HLat.out _).mono ?_); rintro e V2 ⟨rfl, hb⟩
        clear u0 u1 v0 v1
        replace K := (K.keep hb).box (lat.num) (lat.den)
        clear hb
        have u0 := (K.get 0 rfl).c0
        have u1 := (K.get 0 rfl).c1
        have kS : BoxN _ G6 26 #[.int .i64 p.num, .int .i64 (p.den : Int), .int .i64 L, .int .i64 1] := (K.get 10 rfl)
        have kP : Has _ g12 p.num (p.den : Int) := (K.get 11 rfl)
        go_wp2_with fail
        (with_reducible refine (HSv1.out _ _ _ kS kP).mono ?_); rintro e V3 ⟨rfl, hb⟩
        clear u0 u1 kS kP
        replace K := (K.keep hb).box (sv1.num) (sv1.den)
        clear hb
        have u0 := (K.get 10 rfl).c0
        have u1 := (K.get 10 rfl).c1
        have kS : BoxN _ G6 26 #[.int .i64 p.num, .int .i64 (p.den : Int), .int .i64 L, .int .i64 1] := (K.get 11 rfl)
        have kP : Has _ g12 p.num (p.den : Int) := (K.get 12 rfl)
        go_wp2_with fail
        (with_reducible refine (HSv2.out _ _ _ kS kP).mono ?_); rintro e V4 ⟨rfl, hb⟩
        clear u0 u1 kS kP
        replace K := (K.keep hb).box (sv2.num) (sv2.den)
        clear hb
        have u0 := (K.get 0 rfl).c0
        have u1 := (K.get 0 rfl).c1
        have v0 := (K.get 9 rfl).c0
        have v1 := (K.get 9 rfl).c1
        go_wp2_with fail
        (with_reducible refine (HMost.out _).mono ?_); rintro e V5 ⟨rfl, hb⟩
        clear u0 u1 v0 v1
        replace K := (K.keep hb).box (most.num) (most.den)
        clear hb
        have u0 := (K.get 4 rfl).c0
        have u1 := (K.get 4 rfl).c1
        have v0 := (K.get 2 rfl).c0
        have v1 := (K.get 2 rfl).c1
        go_wp2_with fail
        (with_reducible refine (HC1.out _).mono ?_); rintro e V6 ⟨rfl, hb⟩
        clear u0 u1 v0 v1
        replace K := K.keep hb.b
        clear hb
        have u0 := (K.get 4 rfl).c0
        have u1 := (K.get 4 rfl).c1
        have v0 := (K.get 0 rfl).c0
        have v1 := (K.get 0 rfl).c1
        go_wp2_with fail
        (with_reducible refine (HC2.out _).mono ?_); rintro e V7 ⟨rfl, hb⟩
        clear u0 u1 v0 v1
        replace K := K.keep hb.b
        clear hb
        go_wp2_with fail
        (with_reducible refine (HW.out _).mono ?_); rintro e Z ⟨rfl, hb⟩
        have hB := Lib.hid (K.keep hb).b
        clear K hb
        go_wp2
        go_ret
        exact ⟨rfl, hB.out⟩
end Go.Proofs.YtcfbccdicgeddaaGreat.AbLaw
