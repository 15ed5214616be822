/- Merged texts: TSrv. -/
import Derived.Test.YtbncfknjgldcbaaGreatM8
import Derived.Test.YtbncfknjgldcbaaGreatM23
import Derived.Test.YtbncfknjgldcbaaGreatM7
/- The reference's Valid of a server, and Chain. -/
namespace Go.Proofs.YtbncfknjgldcbaaGreat
open Go.RowKit Go.Joins Go.Shelf Go.Sort Num

set_option maxHeartbeats 1000000 in
theorem rserver_any (rn rd ln ld : Int) (h1 : I64 rn) (h2 : I64 rd) (h3 : I64 ln) (h4 : I64 ld) (w : World) :
    Calls Tryz.prog 33 #[.agg #[.int .i64 rn, .int .i64 rd, .int .i64 ln, .int .i64 ld]] w fun e w' => e = .returned (.bool (srvB rn rd ln ld)) ∧ Below w.heap.size w w' := by
  have HV : Hid (∀ W : World, _) := fun W => Ref.valid_any rn rd W h1.1 h1.2 h2.1 h2.2
  have HW : Hid (∀ W : World, _) := fun W => Ref.good_any ln ld W h3.1 h3.2 h4.1 h4.2
  have hB0 := (Below.refl w.heap.size w).alloc (Nat.le_refl _) (.cells #[.int .i64 rn, .int .i64 rd, .int .i64 ln, .int .i64 ld] 52)
  have bS := BoxN.new w 52 #[.int .i64 rn, .int .i64 rd, .int .i64 ln, .int .i64 ld]
  have hsv : srvB rn rd ln ld = ((vldB rn rd && decide (0 < rn)) && amtB ln ld) := by unfold srvB amtB; rw [Bool.and_comm (vldB ln ld)]
  rw [hsv]
  generalize vldB rn rd = b1 at HV ⊢
  generalize amtB ln ld = b2 at HW ⊢
  clear hsv
  go_enter Tryz.func33, Tryz.ntmps33
  go_wp2_with fail
  (with_reducible refine (HV.out _).mono ?_); rintro _ w1 ⟨rfl, hb1⟩
  have bS1 := bS.below hb1 (by simp)
  have s0 := bS1.cell 0
  have s1 := bS1.cell 1
  have s2 := bS1.cell 2
  have s3 := bS1.cell 3
  have hB1 := hB0.trans (hb1.mono hB0.size)
  clear hb1 bS hB0 HV
  cases b1
  · go_wp2
    go_ret
    exact ⟨rfl, hB1⟩
  by_cases hr : 0 < rn
  · have hr1 : Hid (decide (0 < rn) = true) := decide_eq_true hr
    go_wp2_with fail
    (with_reducible refine (HW.out _).mono ?_); rintro _ w2 ⟨rfl, hb2⟩
    have bS2 := bS1.below hb2 bS1.lt
    have hB2 := hB1.trans (hb2.mono hB1.size)
    have u0 := bS2.cell 0
    have u1 := bS2.cell 1
    have u2 := bS2.cell 2
    have u3 := bS2.cell 3
    clear s0 s1 s2 s3 hb2 hB1 HW bS1 bS2
    go_wp2
    go_ret
    exact ⟨by rw [hr1.out]; rfl, hB2⟩
  · have hr1 : Hid (decide (0 < rn) = false) := decide_eq_false hr
    have z := hr1.out
    go_wp2
    go_ret
    exact ⟨by rw [hr1.out]; rfl, hB1⟩

set_option maxRecDepth 100000 in
set_option maxHeartbeats 4000000 in
theorem rchain_bad (an ad bn bd cn cd dn dd : Int) (h1 : I64 an) (h2 : I64 ad) (h3 : I64 bn) (h4 : I64 bd) (h5 : I64 cn) (h6 : I64 cd) (h7 : I64 dn) (h8 : I64 dd) (w : World) (hbad : (srvB an ad bn bd && srvB cn cd dn dd) = false) :
    Calls Tryz.prog 31 #[.agg #[.int .i64 an, .int .i64 ad, .int .i64 bn, .int .i64 bd], .agg #[.int .i64 cn, .int .i64 cd, .int .i64 dn, .int .i64 dd]] w fun e w' => e = .returned (srvV 0 0 0 0 2) ∧ Below w.heap.size w w' := by
  have HA : Hid (∀ W : World, _) := fun W => rserver_any an ad bn bd h1 h2 h3 h4 W
  have HC : Hid (∀ W : World, _) := fun W => rserver_any cn cd dn dd h5 h6 h7 h8 W
  generalize srvB an ad bn bd = x at HA hbad
  generalize srvB cn cd dn dd = y at HC hbad
  have hB := (((Below.refl w.heap.size w).alloc (Nat.le_refl _) (.cells #[.int .i64 an, .int .i64 ad, .int .i64 bn, .int .i64 bd] 52)).alloc (by simp) (.cells #[.int .i64 cn, .int .i64 cd, .int .i64 dn, .int .i64 dd] 52)).alloc (by simp; omega) (.cells #[.int .i64 0, .int .i64 0, .int .i64 0, .int .i64 0] 52)
  have bA := ((BoxN.new w 52 #[.int .i64 an, .int .i64 ad, .int .i64 bn, .int .i64 bd]).alloc (.cells #[.int .i64 cn, .int .i64 cd, .int .i64 dn, .int .i64 dd] 52)).alloc (.cells #[.int .i64 0, .int .i64 0, .int .i64 0, .int .i64 0] 52)
  have bC := (BoxN.new (w.alloc (.cells #[.int .i64 an, .int .i64 ad, .int .i64 bn, .int .i64 bd] 52)) 52 #[.int .i64 cn, .int .i64 cd, .int .i64 dn, .int .i64 dd]).alloc (.cells #[.int .i64 0, .int .i64 0, .int .i64 0, .int .i64 0] 52)
  have bR := BoxN.new ((w.alloc (.cells #[.int .i64 an, .int .i64 ad, .int .i64 bn, .int .i64 bd] 52)).alloc (.cells #[.int .i64 cn, .int .i64 cd, .int .i64 dn, .int .i64 dd] 52)) 52 #[.int .i64 0, .int .i64 0, .int .i64 0, .int .i64 0]
  rw [World.size_alloc] at bC
  rw [World.size_alloc, World.size_alloc] at bR
  have a0 := bA.cell 0
  have a1 := bA.cell 1
  have a2 := bA.cell 2
  have a3 := bA.cell 3
  clear h1 h2 h3 h4 h5 h6 h7 h8
  unfold srvV
  go_enter Tryz.func31, Tryz.ntmps31
  go_wp2_with fail
  (with_reducible refine (HA.out _).mono ?_); rintro _ w1 ⟨rfl, hb⟩
  clear a0 a1 a2 a3
  have bC := bC.below hb bC.lt
  have bR := bR.below hb bR.lt
  have hB := hB.trans (hb.mono hB.size)
  clear hb
  have c0 := bC.cell 0
  have c1 := bC.cell 1
  have c2 := bC.cell 2
  have c3 := bC.cell 3
  have r0 := bR.cell 0
  have r1 := bR.cell 1
  have r2 := bR.cell 2
  have r3 := bR.cell 3
  have f0 := bR.frozen 0
  have f1 := bR.frozen 1
  have f2 := bR.frozen 2
  have f3 := bR.frozen 3
  have kR := bR.lt
  cases x
  · clear c0 c1 c2 c3
    have hBe := Lib.hid (((((hB.setCell (p := ⟨w.heap.size + 1 + 1, 0, none⟩) (by simp; omega) (.int .i64 0)).setCell (p := ⟨w.heap.size + 1 + 1, 1, none⟩) (by simp; omega) (.int .i64 0)).setCell (p := ⟨w.heap.size + 1 + 1, 2, none⟩) (by simp; omega) (.int .i64 0)).setCell (p := ⟨w.heap.size + 1 + 1, 3, none⟩) (by simp; omega) (.int .i64 0)))
    go_wp2_with fail
    refine bodyPost_ret (v := .tuple #[.agg #[.int .i64 0, .int .i64 0, .int .i64 0, .int .i64 0], .int .i64 2]) (by simp [results, Tryz.results31, go_sem, r0, r1, r2, r3]) rfl ⟨rfl, hBe.out⟩
  · obtain rfl : y = false := by simpa using hbad
    go_wp2_with fail
    (with_reducible refine (HC.out _).mono ?_); rintro _ w2 ⟨rfl, hb⟩
    clear c0 c1 c2 c3 r0 r1 r2 r3 f0 f1 f2 f3 kR
    have bC := bC.below hb bC.lt
    have bR := bR.below hb bR.lt
    have hB := hB.trans (hb.mono hB.size)
    clear hb
    have r0 := bR.cell 0
    have r1 := bR.cell 1
    have r2 := bR.cell 2
    have r3 := bR.cell 3
    have f0 := bR.frozen 0
    have f1 := bR.frozen 1
    have f2 := bR.frozen 2
    have f3 := bR.frozen 3
    have kR := bR.lt
    have hBe := Lib.hid (((((hB.setCell (p := ⟨w.heap.size + 1 + 1, 0, none⟩) (by simp; omega) (.int .i64 0)).setCell (p := ⟨w.heap.size + 1 + 1, 1, none⟩) (by simp; omega) (.int .i64 0)).setCell (p := ⟨w.heap.size + 1 + 1, 2, none⟩) (by simp; omega) (.int .i64 0)).setCell (p := ⟨w.heap.size + 1 + 1, 3, none⟩) (by simp; omega) (.int .i64 0)))
    go_wp2_with fail
    refine bodyPost_ret (v := .tuple #[.agg #[.int .i64 0, .int .i64 0, .int .i64 0, .int .i64 0], .int .i64 2]) (by simp [results, Tryz.results31, go_sem, r0, r1, r2, r3]) rfl ⟨rfl, hBe.out⟩

set_option maxRecDepth 100000 in
set_option maxHeartbeats 4000000 in
theorem rchain_ok (r1 L1 r2 L2 : Rat) (h1 : Fit r1) (p1 : 0 < r1) (h2 : Fit L1) (p2 : 0 ≤ L1) (h3 : Fit r2) (p3 : 0 < r2) (h4 : Fit L2) (p4 : 0 ≤ L2) (w : World) :
    Calls Tryz.prog 31 #[.agg #[.int .i64 r1.num, .int .i64 r1.den, .int .i64 L1.num, .int .i64 L1.den], .agg #[.int .i64 r2.num, .int .i64 r2.den, .int .i64 L2.num, .int .i64 L2.den]] w fun e w' => e = .returned (chainV r1 L1 r2 L2) ∧ Below w.heap.size w w' := by
  have d1 := fit_bd h1
  have d2 := fit_bd h2
  have d3 := fit_bd h3
  have d4 := fit_bd h4
  have HA : ∀ W : World, _ := fun W => rserver_any r1.num r1.den L1.num L1.den (by unfold I64; omega) (by unfold I64; omega) (by unfold I64; omega) (by unfold I64; omega) W
  have HC : ∀ W : World, _ := fun W => rserver_any r2.num r2.den L2.num L2.den (by unfold I64; omega) (by unfold I64; omega) (by unfold I64; omega) (by unfold I64; omega) W
  rw [srv_yes h1 p1 h2 p2] at HA
  rw [srv_yes h3 p3 h4 p4] at HC
  have HD : ∀ W : World, _ := fun W => Ref.add_r h2 h4 W
  have HM : Hid (∀ W : World, Calls Tryz.prog 53 #[.agg #[.int .i64 r2.num, .int .i64 r2.den], .agg #[.int .i64 r1.num, .int .i64 r1.den]] W fun e w' => e = .returned (.int .i64 (cmpQ r2 r1)) ∧ Below W.heap.size W w') := fun W => Ref.cmp_r h3 h1 W
  have hcq : Hid (cmpQ r2 r1 < 0 ↔ r2 < r1) := cmpQ_neg
  have hmq : Hid (minq r1 r2 = if r2 < r1 then r2 else r1) := rfl
  obtain ⟨kq, hkq⟩ : ∃ k, cmpQ r2 r1 = k := ⟨_, rfl⟩
  rw [hkq] at HM hcq
  have hx1 : Hid (kq < 0 → (minq r1 r2).num = r2.num ∧ ((minq r1 r2).den : Int) = r2.den) := fun h => by rw [hmq.out, if_pos (hcq.out.1 h)]; exact ⟨rfl, rfl⟩
  have hx2 : Hid (¬ kq < 0 → (minq r1 r2).num = r1.num ∧ ((minq r1 r2).den : Int) = r1.den) := fun h => by rw [hmq.out, if_neg (fun k => h (hcq.out.2 k))]; exact ⟨rfl, rfl⟩
  unfold chainV
  obtain ⟨mn, hmn⟩ : ∃ z, (minq r1 r2).num = z := ⟨_, rfl⟩
  obtain ⟨md, hmd⟩ : ∃ z, ((minq r1 r2).den : Int) = z := ⟨_, rfl⟩
  rw [hmn, hmd] at hx1 hx2 ⊢
  clear d1 d2 d3 d4 p1 p2 p3 p4 h1 h2 h3 h4 hkq hmq hcq hmn hmd
  obtain ⟨⟨sn, sd, se⟩, hof⟩ : ∃ q, ofR (L1 + L2) = q := ⟨_, rfl⟩
  rw [hof] at HD
  simp only [ratV] at HD
  have hres : Hid ((se = 0 ∧ (if Fit (L1 + L2) then srvV mn md (L1 + L2).num (L1 + L2).den 0 else srvV 0 0 0 0 3) = srvV mn md sn sd 0) ∨ (se = 3 ∧ (if Fit (L1 + L2) then srvV mn md (L1 + L2).num (L1 + L2).den 0 else srvV 0 0 0 0 3) = srvV 0 0 0 0 3)) := by
    by_cases hf : Fit (L1 + L2)
    · rw [ofR_yes hf] at hof
      cases hof
      exact .inl ⟨rfl, if_pos hf⟩
    · rw [ofR_no hf] at hof
      cases hof
      exact .inr ⟨rfl, if_neg hf⟩
  generalize (if Fit (L1 + L2) then srvV mn md (L1 + L2).num (L1 + L2).den 0 else srvV 0 0 0 0 3) = RV at hres ⊢
  clear hof
  generalize r1.num = an at *
  generalize (r1.den : Int) = ad at *
  generalize L1.num = bn at *
  generalize (L1.den : Int) = bd at *
  generalize r2.num = cn at *
  generalize (r2.den : Int) = cd at *
  generalize L2.num = dn at *
  generalize (L2.den : Int) = dd at *
  replace HA := Lib.hid HA
  replace HC := Lib.hid HC
  replace HD := Lib.hid HD
  have hB := (((Below.refl w.heap.size w).alloc (Nat.le_refl _) (.cells #[.int .i64 an, .int .i64 ad, .int .i64 bn, .int .i64 bd] 52)).alloc (by simp) (.cells #[.int .i64 cn, .int .i64 cd, .int .i64 dn, .int .i64 dd] 52)).alloc (by simp; omega) (.cells #[.int .i64 0, .int .i64 0, .int .i64 0, .int .i64 0] 52)
  have bA := ((BoxN.new w 52 #[.int .i64 an, .int .i64 ad, .int .i64 bn, .int .i64 bd]).alloc (.cells #[.int .i64 cn, .int .i64 cd, .int .i64 dn, .int .i64 dd] 52)).alloc (.cells #[.int .i64 0, .int .i64 0, .int .i64 0, .int .i64 0] 52)
  have bC := (BoxN.new (w.alloc (.cells #[.int .i64 an, .int .i64 ad, .int .i64 bn, .int .i64 bd] 52)) 52 #[.int .i64 cn, .int .i64 cd, .int .i64 dn, .int .i64 dd]).alloc (.cells #[.int .i64 0, .int .i64 0, .int .i64 0, .int .i64 0] 52)
  have bR := BoxN.new ((w.alloc (.cells #[.int .i64 an, .int .i64 ad, .int .i64 bn, .int .i64 bd] 52)).alloc (.cells #[.int .i64 cn, .int .i64 cd, .int .i64 dn, .int .i64 dd] 52)) 52 #[.int .i64 0, .int .i64 0, .int .i64 0, .int .i64 0]
  rw [World.size_alloc] at bC
  rw [World.size_alloc, World.size_alloc] at bR
  have a0 := bA.cell 0
  have a1 := bA.cell 1
  have a2 := bA.cell 2
  have a3 := bA.cell 3
  go_enter Tryz.func31, Tryz.ntmps31
  go_wp2_with fail
  (with_reducible refine (HA.out _).mono ?_); rintro _ w1 ⟨rfl, hb⟩
  have bA := bA.below hb bA.lt
  clear a0 a1 a2 a3
  have bC := bC.below hb bC.lt
  have bR := bR.below hb bR.lt
  have hB := hB.trans (hb.mono hB.size)
  clear hb
  have a0 := bA.cell 0
  have a1 := bA.cell 1
  have a2 := bA.cell 2
  have a3 := bA.cell 3
  have c0 := bC.cell 0
  have c1 := bC.cell 1
  have c2 := bC.cell 2
  have c3 := bC.cell 3
  have r0 := bR.cell 0
  have r1 := bR.cell 1
  have r2 := bR.cell 2
  have r3 := bR.cell 3
  have f0 := bR.frozen 0
  have f1 := bR.frozen 1
  have f2 := bR.frozen 2
  have f3 := bR.frozen 3
  have kR := bR.lt
  have kA := bA.lt
  have kC := bC.lt
  go_wp2_with fail
  (with_reducible refine (HC.out _).mono ?_); rintro _ w2 ⟨rfl, hb⟩
  clear a0 a1 a2 a3 c0 c1 c2 c3 r0 r1 r2 r3 f0 f1 f2 f3 kR kA kC
  have bA := bA.below hb bA.lt
  have bC := bC.below hb bC.lt
  have bR := bR.below hb bR.lt
  have hB := hB.trans (hb.mono hB.size)
  clear hb
  have a0 := bA.cell 0
  have a1 := bA.cell 1
  have a2 := bA.cell 2
  have a3 := bA.cell 3
  have c0 := bC.cell 0
  have c1 := bC.cell 1
  have c2 := bC.cell 2
  have c3 := bC.cell 3
  have r0 := bR.cell 0
  have r1 := bR.cell 1
  have r2 := bR.cell 2
  have r3 := bR.cell 3
  have f0 := bR.frozen 0
  have f1 := bR.frozen 1
  have f2 := bR.frozen 2
  have f3 := bR.frozen 3
  have kR := bR.lt
  have kA := bA.lt
  have kC := bC.lt
  go_wp2_with fail
  (with_reducible refine (HD.out _).mono ?_); rintro _ w3 ⟨rfl, hb⟩
  clear a0 a1 a2 a3 c0 c1 c2 c3 r0 r1 r2 r3 f0 f1 f2 f3 kR kA kC
  have bA := bA.below hb bA.lt
  have bC := bC.below hb bC.lt
  have bR := bR.below hb bR.lt
  have hB := hB.trans (hb.mono hB.size)
  clear hb
  have a0 := bA.cell 0
  have a1 := bA.cell 1
  have a2 := bA.cell 2
  have a3 := bA.cell 3
  have c0 := bC.cell 0
  have c1 := bC.cell 1
  have c2 := bC.cell 2
  have c3 := bC.cell 3
  have r0 := bR.cell 0
  have r1 := bR.cell 1
  have r2 := bR.cell 2
  have r3 := bR.cell 3
  have f0 := bR.frozen 0
  have f1 := bR.frozen 1
  have f2 := bR.frozen 2
  have f3 := bR.frozen 3
  have kR := bR.lt
  have kA := bA.lt
  have kC := bC.lt
  rcases hres.out with ⟨rfl, hrv⟩ | ⟨rfl, hrv⟩
  · have hrv := Lib.hid hrv
    clear hres
    have bZ := BoxN.new w3 25 #[.int .i64 sn, .int .i64 sd]
    have hB := hB.alloc hB.size (.cells #[.int .i64 sn, .int .i64 sd] 25)
    have bA := bA.alloc (.cells #[.int .i64 sn, .int .i64 sd] 25)
    have bC := bC.alloc (.cells #[.int .i64 sn, .int .i64 sd] 25)
    have bR := bR.alloc (.cells #[.int .i64 sn, .int .i64 sd] 25)
    go_wp2_with fail
    (with_reducible refine (HM.out _).mono ?_); rintro _ w4 ⟨rfl, hb⟩
    clear a0 a1 a2 a3 c0 c1 c2 c3 r0 r1 r2 r3 f0 f1 f2 f3 kR kA kC
    have bZ := bZ.below hb bZ.lt
    have z0 := bZ.cell 0
    have z1 := bZ.cell 1
    have kZ := bZ.lt
    have bA := bA.below hb bA.lt
    have bC := bC.below hb bC.lt
    have bR := bR.below hb bR.lt
    have hB := hB.trans (hb.mono hB.size)
    clear hb
    have a0 := bA.cell 0
    have a1 := bA.cell 1
    have a2 := bA.cell 2
    have a3 := bA.cell 3
    have c0 := bC.cell 0
    have c1 := bC.cell 1
    have c2 := bC.cell 2
    have c3 := bC.cell 3
    have r0 := bR.cell 0
    have r1 := bR.cell 1
    have r2 := bR.cell 2
    have r3 := bR.cell 3
    have f0 := bR.frozen 0
    have f1 := bR.frozen 1
    have f2 := bR.frozen 2
    have f3 := bR.frozen 3
    have kR := bR.lt
    have kA := bA.lt
    have kC := bC.lt
    by_cases hk0 : kq < 0
    · have hkd : decide (kq < 0) = true := decide_eq_true hk0
      obtain ⟨e1, e2⟩ := hx1.out hk0
      replace hrv := hrv.out
      rw [e1, e2] at hrv
      replace hrv := Lib.hid hrv
      clear e1 e2 hx1 hx2
      have hBe := Lib.hid (((((hB.setCell (p := ⟨w.heap.size + 1 + 1, 0, none⟩) (by simp; omega) (.int .i64 cn)).setCell (p := ⟨w.heap.size + 1 + 1, 1, none⟩) (by simp; omega) (.int .i64 cd)).setCell (p := ⟨w.heap.size + 1 + 1, 2, none⟩) (by simp; omega) (.int .i64 sn)).setCell (p := ⟨w.heap.size + 1 + 1, 3, none⟩) (by simp; omega) (.int .i64 sd)))
      go_wp2_with fail
      refine bodyPost_ret (v := .tuple #[.agg #[.int .i64 cn, .int .i64 cd, .int .i64 sn, .int .i64 sd], .int .i64 0]) (by simp [results, Tryz.results31, go_sem, r0, r1, r2, r3]) rfl ⟨by rw [hrv.out]; rfl, hBe.out⟩
    · have hkd : decide (kq < 0) = false := decide_eq_false hk0
      obtain ⟨e1, e2⟩ := hx2.out (by omega)
      replace hrv := hrv.out
      rw [e1, e2] at hrv
      replace hrv := Lib.hid hrv
      clear e1 e2 hx1 hx2
      have hBe := Lib.hid (((((hB.setCell (p := ⟨w.heap.size + 1 + 1, 0, none⟩) (by simp; omega) (.int .i64 an)).setCell (p := ⟨w.heap.size + 1 + 1, 1, none⟩) (by simp; omega) (.int .i64 ad)).setCell (p := ⟨w.heap.size + 1 + 1, 2, none⟩) (by simp; omega) (.int .i64 sn)).setCell (p := ⟨w.heap.size + 1 + 1, 3, none⟩) (by simp; omega) (.int .i64 sd)))
      go_wp2_with fail
      refine bodyPost_ret (v := .tuple #[.agg #[.int .i64 an, .int .i64 ad, .int .i64 sn, .int .i64 sd], .int .i64 0]) (by simp [results, Tryz.results31, go_sem, r0, r1, r2, r3]) rfl ⟨by rw [hrv.out]; rfl, hBe.out⟩
  · have hrv := Lib.hid hrv
    clear hres
    have hBe := Lib.hid ((((((hB.setCell (p := ⟨w.heap.size + 1 + 1, 0, none⟩) (by simp; omega) (.int .i64 0)).setCell (p := ⟨w.heap.size + 1 + 1, 1, none⟩) (by simp; omega) (.int .i64 0)).setCell (p := ⟨w.heap.size + 1 + 1, 2, none⟩) (by simp; omega) (.int .i64 0)).setCell (p := ⟨w.heap.size + 1 + 1, 3, none⟩) (by simp; omega) (.int .i64 0))).alloc (by have := hB.size; simp; omega) (.cells #[.int .i64 sn, .int .i64 sd] 25))
    go_wp2_with fail
    refine bodyPost_ret (v := .tuple #[.agg #[.int .i64 0, .int .i64 0, .int .i64 0, .int .i64 0], .int .i64 3]) (by simp [results, Tryz.results31, go_sem, r0, r1, r2, r3, kR]) rfl ⟨by rw [hrv.out]; rfl, hBe.out⟩
end Go.Proofs.YtbncfknjgldcbaaGreat
