/- Merged texts: TBak. -/
import Derived.Test.YtbncfknjgldcbaaGreatM29
import Derived.Test.YtbncfknjgldcbaaGreatM14
/- The reference's backlogAt. -/
namespace Go.Proofs.YtbncfknjgldcbaaGreat
open Go.RowKit Go.Joins Go.Shelf Go.Sort Num

set_option maxRecDepth 100000 in
set_option maxHeartbeats 4000000 in
theorem rback_any (A : Option Addr) (cap : Nat) (cs : List (List Buck)) (hl : cs.length ≤ 1048576) (r L t : Rat) (hr : Fit r) (hL : Fit L) (ht : Fit t) (ht0 : 0 ≤ t) (w : World) (hI : isL A cs w) :
    Calls Tryz.prog 79 #[.slice A cs.length cap, .agg #[.int .i64 r.num, .int .i64 r.den, .int .i64 L.num, .int .i64 L.den], .agg #[.int .i64 t.num, .int .i64 t.den]] w fun e w' => e = .returned (ratV (numV (backO cs r L t))) ∧ Below w.heap.size w w' := by
  have hB := (((Below.refl w.heap.size w).alloc (Nat.le_refl _) (.cells #[.int .i64 r.num, .int .i64 r.den, .int .i64 L.num, .int .i64 L.den] 52)).alloc (by simp) (.cells #[.int .i64 t.num, .int .i64 t.den] 25)).alloc (by simp; omega) (.cells #[.int .i64 0, .int .i64 0] 25)
  have HT := rtotal_any A cap cs t hl ht ht0 _ (cl_isL A cs w _ hI hB)
  have bS := ((BoxN.new w 52 #[.int .i64 r.num, .int .i64 r.den, .int .i64 L.num, .int .i64 L.den]).alloc (.cells #[.int .i64 t.num, .int .i64 t.den] 25)).alloc (.cells #[.int .i64 0, .int .i64 0] 25)
  have bT := (BoxN.new (w.alloc (.cells #[.int .i64 r.num, .int .i64 r.den, .int .i64 L.num, .int .i64 L.den] 52)) 25 #[.int .i64 t.num, .int .i64 t.den]).alloc (.cells #[.int .i64 0, .int .i64 0] 25)
  have bR := BoxN.new ((w.alloc (.cells #[.int .i64 r.num, .int .i64 r.den, .int .i64 L.num, .int .i64 L.den] 52)).alloc (.cells #[.int .i64 t.num, .int .i64 t.den] 25)) 25 #[.int .i64 0, .int .i64 0]
  rw [World.size_alloc] at bT
  rw [World.size_alloc, World.size_alloc] at bR
  have hfit : fitO (totO cs t) := sumO_fit
  have HC : ∀ W : World, Calls Tryz.prog 53 #[.agg #[.int .i64 t.num, .int .i64 t.den], .agg #[.int .i64 L.num, .int .i64 L.den]] W fun e w' => e = .returned (.int .i64 (cmpQ t L)) ∧ Below W.heap.size W w' := fun W => Ref.cmp_r ht hL W
  have H1 : ∀ W : World, Calls Tryz.prog 60 #[.int .i64 1, .agg #[.int .i64 t.num, .int .i64 t.den], .agg #[.int .i64 L.num, .int .i64 L.den]] W fun e w' => e = .returned (ratV (ofR (t - L))) ∧ Below W.heap.size W w' := fun W => Ref.sub_r ht hL W
  have HM : ∀ (x : Rat) (_ : Fit x) (W : World), Calls Tryz.prog 60 #[.int .i64 2, .agg #[.int .i64 r.num, .int .i64 r.den], .agg #[.int .i64 x.num, .int .i64 x.den]] W fun e w' => e = .returned (ratV (ofR (r * x))) ∧ Below W.heap.size W w' := fun x hx W => Ref.mul_r hr hx W
  have HS : ∀ (x y : Rat) (_ : Fit x) (_ : Fit y) (W : World), Calls Tryz.prog 60 #[.int .i64 1, .agg #[.int .i64 x.num, .int .i64 x.den], .agg #[.int .i64 y.num, .int .i64 y.den]] W fun e w' => e = .returned (ratV (ofR (x - y))) ∧ Below W.heap.size W w' := fun x y hx hy W => Ref.sub_r hx hy W
  have hcq : cmpQ t L ≤ 0 ↔ t ≤ L := cmpQ_le
  generalize cmpQ t L = kq at HC hcq
  replace hcq := Lib.hid hcq
  unfold backO
  generalize totO cs t = o at HT hfit ⊢
  generalize t.num = tn at *
  generalize (t.den : Int) = td at *
  generalize r.num = rn at *
  generalize (r.den : Int) = rd at *
  generalize L.num = Ln at *
  generalize (L.den : Int) = Ld at *
  replace HC := Lib.hid HC
  replace H1 := Lib.hid H1
  replace HM := Lib.hid HM
  replace HS := Lib.hid HS
  clear hI ht ht0 hr hL
  have t0 := bT.cell 0
  have t1 := bT.cell 1
  have kT := bT.lt
  rcases o with _ | x
  · simp only [numV, ratV] at HT
    replace HT := Lib.hid HT
    go_enter Tryz.func79, Tryz.ntmps79
    go_wp2_with fail
    (with_reducible refine (HT.out).mono ?_); rintro _ w1 ⟨rfl, hb⟩
    clear t0 t1 kT
    have hz1 := hb.size
    simp only [World.size_alloc] at hz1
    have bS := bS.below hb bS.lt
    have bT := bT.below hb bT.lt
    have bR := bR.below hb bR.lt
    have hB := hB.trans (hb.mono hB.size)
    clear hb
    have bV := BoxN.new w1 25 #[.int .i64 0, .int .i64 0]
    have bS := bS.alloc (.cells #[.int .i64 0, .int .i64 0] 25)
    have bT := bT.alloc (.cells #[.int .i64 0, .int .i64 0] 25)
    have bR := bR.alloc (.cells #[.int .i64 0, .int .i64 0] 25)
    have hB := hB.alloc hB.size (.cells #[.int .i64 0, .int .i64 0] 25)
    have r0 := bR.cell 0
    have r1 := bR.cell 1
    have rf0 := bR.frozen 0
    have rf1 := bR.frozen 1
    have kR := bR.lt
    have hBe := Lib.hid ((hB.setCell (p := ⟨w.heap.size + 1 + 1, 0, none⟩) (by simp; omega) (.int .i64 0)).setCell (p := ⟨w.heap.size + 1 + 1, 1, none⟩) (by simp; omega) (.int .i64 0))
    go_wp2_with fail
    refine bodyPost_ret (v := ratV (0, 0, 3)) (by simp [results, Tryz.results79, go_sem, ratV, r0, r1]) rfl ⟨rfl, hBe.out⟩
  have hx := hfit x rfl
  simp only [numV, ratV] at HT
  replace HT := Lib.hid HT
  obtain ⟨res, hres⟩ : ∃ res, numV (if t ≤ L then some x else opO (x - ·) (opO (r * ·) (opO (t - ·) (some L)))) = res := ⟨_, rfl⟩
  show Calls _ _ _ _ fun e w' => e = .returned (ratV (numV (if t ≤ L then some x else opO (x - ·) (opO (r * ·) (opO (t - ·) (some L)))))) ∧ _
  rw [hres]
  have H4 := fun y hy W => HS.out x y hx hy W
  have H1 := H1.out
  simp only [ofR_num] at H1 H4
  have hend0 : Hid (t ≤ L → res = (x.num, (x.den : Int), 0)) := fun h => by rw [← hres, if_pos h]; rfl
  generalize x.num = xn at HT H4 hend0
  generalize (x.den : Int) = xd at HT H4 hend0
  replace H4 := Lib.hid H4
  clear HS
  go_enter Tryz.func79, Tryz.ntmps79
  go_wp2_with fail
  (with_reducible refine (HT.out).mono ?_); rintro _ w1 ⟨rfl, hb⟩
  clear t0 t1 kT
  have hz1 := hb.size
  simp only [World.size_alloc] at hz1
  have bS := bS.below hb bS.lt
  have bT := bT.below hb bT.lt
  have bR := bR.below hb bR.lt
  have hB := hB.trans (hb.mono hB.size)
  clear hb
  have bV := BoxN.new w1 25 #[.int .i64 xn, .int .i64 xd]
  have bS := bS.alloc (.cells #[.int .i64 xn, .int .i64 xd] 25)
  have bT := bT.alloc (.cells #[.int .i64 xn, .int .i64 xd] 25)
  have bR := bR.alloc (.cells #[.int .i64 xn, .int .i64 xd] 25)
  have hB := hB.alloc hB.size (.cells #[.int .i64 xn, .int .i64 xd] 25)
  have s0 := bS.cell 0
  have s1 := bS.cell 1
  have s2 := bS.cell 2
  have s3 := bS.cell 3
  have kS := bS.lt
  have t0 := bT.cell 0
  have t1 := bT.cell 1
  have kT := bT.lt
  have r0 := bR.cell 0
  have r1 := bR.cell 1
  have rf0 := bR.frozen 0
  have rf1 := bR.frozen 1
  have kR := bR.lt
  have v0 := bV.cell 0
  have v1 := bV.cell 1
  have vf0 := bV.frozen 0
  have vf1 := bV.frozen 1
  have kV := bV.lt
  go_wp2_with fail
  (with_reducible refine (HC.out _).mono ?_); rintro _ w2 ⟨rfl, hb⟩
  clear s0 s1 s2 s3 kS t0 t1 kT r0 r1 rf0 rf1 kR v0 v1 vf0 vf1 kV
  have bS := bS.below hb bS.lt
  have bT := bT.below hb bT.lt
  have bR := bR.below hb bR.lt
  have bV := bV.below hb bV.lt
  have hB := hB.trans (hb.mono hB.size)
  clear hb
  have s0 := bS.cell 0
  have s1 := bS.cell 1
  have s2 := bS.cell 2
  have s3 := bS.cell 3
  have kS := bS.lt
  have t0 := bT.cell 0
  have t1 := bT.cell 1
  have kT := bT.lt
  have r0 := bR.cell 0
  have r1 := bR.cell 1
  have rf0 := bR.frozen 0
  have rf1 := bR.frozen 1
  have kR := bR.lt
  have v0 := bV.cell 0
  have v1 := bV.cell 1
  have vf0 := bV.frozen 0
  have vf1 := bV.frozen 1
  have kV := bV.lt
  by_cases hk0 : kq ≤ 0
  · have hkd : decide (kq ≤ 0) = true := decide_eq_true hk0
    have hend := Lib.hid (hend0.out (hcq.out.1 hk0))
    have bS := (bS.far (p := ⟨w.heap.size + 1 + 1, 0, none⟩) (by first | omega | (simp; done) | (simp; omega)) (.int .i64 xn)).far (p := ⟨w.heap.size + 1 + 1, 1, none⟩) (by first | omega | (simp; done) | (simp; omega)) (.int .i64 xd)
    have bT := (bT.far (p := ⟨w.heap.size + 1 + 1, 0, none⟩) (by first | omega | (simp; done) | (simp; omega)) (.int .i64 xn)).far (p := ⟨w.heap.size + 1 + 1, 1, none⟩) (by first | omega | (simp; done) | (simp; omega)) (.int .i64 xd)
    have bR := bR.set2 (.int .i64 xn) (.int .i64 xd)
    have bV := (bV.far (p := ⟨w.heap.size + 1 + 1, 0, none⟩) (by first | omega | (simp; done) | (simp; omega)) (.int .i64 xn)).far (p := ⟨w.heap.size + 1 + 1, 1, none⟩) (by first | omega | (simp; done) | (simp; omega)) (.int .i64 xd)
    have hB := (hB.setCell (p := ⟨w.heap.size + 1 + 1, 0, none⟩) (by first | omega | (simp; done) | (simp; omega)) (.int .i64 xn)).setCell (p := ⟨w.heap.size + 1 + 1, 1, none⟩) (by first | omega | (simp; done) | (simp; omega)) (.int .i64 xd)
    have hBe := Lib.hid hB
    clear hres
    go_wp2_with fail
    refine bodyPost_ret (v := ratV (xn, xd, 0)) (by simp [results, Tryz.results79, go_sem, ratV, r0, r1]) rfl ⟨by rw [hend.out], hBe.out⟩
  have hkd : decide (kq ≤ 0) = false := decide_eq_false hk0
  rw [if_neg (fun h => hk0 (hcq.out.2 h))] at hres
  replace hres := Lib.hid hres
  by_cases hf0 : Fit (t - L)
  case neg =>
    simp only [if_neg hf0] at H1
    have hend : Hid (res = (0, 0, 3)) := by unfold Hid; rw [← hres.out, opO_no (f := (t - ·)) hf0]; rfl
    simp only [numV, ratV] at H1
    replace H1 := Lib.hid H1
    clear hres hf0
    go_wp2_with fail
    (with_reducible refine (H1.out _).mono ?_); rintro _ w3 ⟨rfl, hb⟩
    clear s0 s1 s2 s3 kS t0 t1 kT r0 r1 rf0 rf1 kR v0 v1 vf0 vf1 kV
    have bS := bS.below hb bS.lt
    have bT := bT.below hb bT.lt
    have bR := bR.below hb bR.lt
    have bV := bV.below hb bV.lt
    have hB := hB.trans (hb.mono hB.size)
    clear hb
    have s0 := bS.cell 0
    have s1 := bS.cell 1
    have s2 := bS.cell 2
    have s3 := bS.cell 3
    have kS := bS.lt
    have t0 := bT.cell 0
    have t1 := bT.cell 1
    have kT := bT.lt
    have r0 := bR.cell 0
    have r1 := bR.cell 1
    have rf0 := bR.frozen 0
    have rf1 := bR.frozen 1
    have kR := bR.lt
    have v0 := bV.cell 0
    have v1 := bV.cell 1
    have vf0 := bV.frozen 0
    have vf1 := bV.frozen 1
    have kV := bV.lt
    have bS := (bS.far (p := ⟨w.heap.size + 1 + 1, 0, none⟩) (by first | omega | (simp; done) | (simp; omega)) (.int .i64 0)).far (p := ⟨w.heap.size + 1 + 1, 1, none⟩) (by first | omega | (simp; done) | (simp; omega)) (.int .i64 0)
    have bT := (bT.far (p := ⟨w.heap.size + 1 + 1, 0, none⟩) (by first | omega | (simp; done) | (simp; omega)) (.int .i64 0)).far (p := ⟨w.heap.size + 1 + 1, 1, none⟩) (by first | omega | (simp; done) | (simp; omega)) (.int .i64 0)
    have bR := bR.set2 (.int .i64 0) (.int .i64 0)
    have bV := (bV.far (p := ⟨w.heap.size + 1 + 1, 0, none⟩) (by first | omega | (simp; done) | (simp; omega)) (.int .i64 0)).far (p := ⟨w.heap.size + 1 + 1, 1, none⟩) (by first | omega | (simp; done) | (simp; omega)) (.int .i64 0)
    have hB := (hB.setCell (p := ⟨w.heap.size + 1 + 1, 0, none⟩) (by first | omega | (simp; done) | (simp; omega)) (.int .i64 0)).setCell (p := ⟨w.heap.size + 1 + 1, 1, none⟩) (by first | omega | (simp; done) | (simp; omega)) (.int .i64 0)
    have hB := hB.alloc hB.size (.cells #[.int .i64 0, .int .i64 0] 25)
    have hBe := Lib.hid hB
    go_wp2_with fail
    refine bodyPost_ret (v := ratV (0, 0, 3)) (by simp [results, Tryz.results79, go_sem, ratV, r0, r1, kR]) rfl ⟨by rw [hend.out], hBe.out⟩
  simp only [if_pos hf0] at H1
  replace hres := hres.out
  rw [opO_yes (f := (t - ·)) hf0] at hres
  generalize t - L = y at hf0 H1 hres
  replace hres := Lib.hid hres
  have H2 := fun W => HM.out y hf0 W
  simp only [ofR_num] at H2
  simp only [numV, ratV] at H1
  generalize y.num = yn at H1 H2
  generalize (y.den : Int) = yd at H1 H2
  replace H1 := Lib.hid H1
  go_wp2_with fail
  (with_reducible refine (H1.out _).mono ?_); rintro _ w3 ⟨rfl, hb⟩
  clear s0 s1 s2 s3 kS t0 t1 kT r0 r1 rf0 rf1 kR v0 v1 vf0 vf1 kV
  have bS := bS.below hb bS.lt
  have bT := bT.below hb bT.lt
  have bR := bR.below hb bR.lt
  have bV := bV.below hb bV.lt
  have hB := hB.trans (hb.mono hB.size)
  clear hb
  have nx1 := bR.lt
  have nx2 := bV.lt
  have bX := BoxN.new w3 25 #[.int .i64 yn, .int .i64 yd]
  have bS := bS.alloc (.cells #[.int .i64 yn, .int .i64 yd] 25)
  have bT := bT.alloc (.cells #[.int .i64 yn, .int .i64 yd] 25)
  have bR := bR.alloc (.cells #[.int .i64 yn, .int .i64 yd] 25)
  have bV := bV.alloc (.cells #[.int .i64 yn, .int .i64 yd] 25)
  have hB := hB.alloc hB.size (.cells #[.int .i64 yn, .int .i64 yd] 25)
  have s0 := bS.cell 0
  have s1 := bS.cell 1
  have s2 := bS.cell 2
  have s3 := bS.cell 3
  have kS := bS.lt
  have t0 := bT.cell 0
  have t1 := bT.cell 1
  have kT := bT.lt
  have r0 := bR.cell 0
  have r1 := bR.cell 1
  have rf0 := bR.frozen 0
  have rf1 := bR.frozen 1
  have kR := bR.lt
  have v0 := bV.cell 0
  have v1 := bV.cell 1
  have vf0 := bV.frozen 0
  have vf1 := bV.frozen 1
  have kV := bV.lt
  have x0 := bX.cell 0
  have x1 := bX.cell 1
  have xf0 := bX.frozen 0
  have xf1 := bX.frozen 1
  have kX := bX.lt
  clear H1
  by_cases hf1 : Fit (r * y)
  case neg =>
    simp only [if_neg hf1] at H2
    have hend : Hid (res = (0, 0, 3)) := by unfold Hid; rw [← hres.out, opO_no (f := (r * ·)) hf1]; rfl
    simp only [numV, ratV] at H2
    replace H2 := Lib.hid H2
    clear hres hf1
    go_wp2_with fail
    (with_reducible refine (H2.out _).mono ?_); rintro _ w4 ⟨rfl, hb⟩
    clear s0 s1 s2 s3 kS t0 t1 kT r0 r1 rf0 rf1 kR v0 v1 vf0 vf1 kV x0 x1 xf0 xf1 kX
    have bS := bS.below hb bS.lt
    have bT := bT.below hb bT.lt
    have bR := bR.below hb bR.lt
    have bV := bV.below hb bV.lt
    have bX := bX.below hb bX.lt
    have hB := hB.trans (hb.mono hB.size)
    clear hb
    have s0 := bS.cell 0
    have s1 := bS.cell 1
    have s2 := bS.cell 2
    have s3 := bS.cell 3
    have kS := bS.lt
    have t0 := bT.cell 0
    have t1 := bT.cell 1
    have kT := bT.lt
    have r0 := bR.cell 0
    have r1 := bR.cell 1
    have rf0 := bR.frozen 0
    have rf1 := bR.frozen 1
    have kR := bR.lt
    have v0 := bV.cell 0
    have v1 := bV.cell 1
    have vf0 := bV.frozen 0
    have vf1 := bV.frozen 1
    have kV := bV.lt
    have x0 := bX.cell 0
    have x1 := bX.cell 1
    have xf0 := bX.frozen 0
    have xf1 := bX.frozen 1
    have kX := bX.lt
    have bS := (bS.far (p := ⟨w3.heap.size, 0, none⟩) (by first | omega | (simp; done) | (simp; omega)) (.int .i64 0)).far (p := ⟨w3.heap.size, 1, none⟩) (by first | omega | (simp; done) | (simp; omega)) (.int .i64 0)
    have bT := (bT.far (p := ⟨w3.heap.size, 0, none⟩) (by first | omega | (simp; done) | (simp; omega)) (.int .i64 0)).far (p := ⟨w3.heap.size, 1, none⟩) (by first | omega | (simp; done) | (simp; omega)) (.int .i64 0)
    have bR := (bR.far (p := ⟨w3.heap.size, 0, none⟩) (by first | omega | (simp; done) | (simp; omega)) (.int .i64 0)).far (p := ⟨w3.heap.size, 1, none⟩) (by first | omega | (simp; done) | (simp; omega)) (.int .i64 0)
    have bV := (bV.far (p := ⟨w3.heap.size, 0, none⟩) (by first | omega | (simp; done) | (simp; omega)) (.int .i64 0)).far (p := ⟨w3.heap.size, 1, none⟩) (by first | omega | (simp; done) | (simp; omega)) (.int .i64 0)
    have bX := bX.set2 (.int .i64 0) (.int .i64 0)
    have hB := (hB.setCell (p := ⟨w3.heap.size, 0, none⟩) (by first | omega | (simp; done) | (simp; omega)) (.int .i64 0)).setCell (p := ⟨w3.heap.size, 1, none⟩) (by first | omega | (simp; done) | (simp; omega)) (.int .i64 0)
    have bS := (bS.far (p := ⟨w.heap.size + 1 + 1, 0, none⟩) (by first | omega | (simp; done) | (simp; omega)) (.int .i64 0)).far (p := ⟨w.heap.size + 1 + 1, 1, none⟩) (by first | omega | (simp; done) | (simp; omega)) (.int .i64 0)
    have bT := (bT.far (p := ⟨w.heap.size + 1 + 1, 0, none⟩) (by first | omega | (simp; done) | (simp; omega)) (.int .i64 0)).far (p := ⟨w.heap.size + 1 + 1, 1, none⟩) (by first | omega | (simp; done) | (simp; omega)) (.int .i64 0)
    have bR := bR.set2 (.int .i64 0) (.int .i64 0)
    have bV := (bV.far (p := ⟨w.heap.size + 1 + 1, 0, none⟩) (by first | omega | (simp; done) | (simp; omega)) (.int .i64 0)).far (p := ⟨w.heap.size + 1 + 1, 1, none⟩) (by first | omega | (simp; done) | (simp; omega)) (.int .i64 0)
    have bX := (bX.far (p := ⟨w.heap.size + 1 + 1, 0, none⟩) (by first | omega | (simp; done) | (simp; omega)) (.int .i64 0)).far (p := ⟨w.heap.size + 1 + 1, 1, none⟩) (by first | omega | (simp; done) | (simp; omega)) (.int .i64 0)
    have hB := (hB.setCell (p := ⟨w.heap.size + 1 + 1, 0, none⟩) (by first | omega | (simp; done) | (simp; omega)) (.int .i64 0)).setCell (p := ⟨w.heap.size + 1 + 1, 1, none⟩) (by first | omega | (simp; done) | (simp; omega)) (.int .i64 0)
    have hBe := Lib.hid hB
    go_wp2_with fail
    refine bodyPost_ret (v := ratV (0, 0, 3)) (by simp [results, Tryz.results79, go_sem, ratV, r0, r1]) rfl ⟨by rw [hend.out], hBe.out⟩
  simp only [if_pos hf1] at H2
  replace hres := hres.out
  rw [opO_yes (f := (r * ·)) hf1] at hres
  generalize r * y = z at hf1 H2 hres
  replace hres := Lib.hid hres
  have H3 := fun W => H4.out z hf1 W
  simp only [numV, ratV] at H2
  generalize z.num = zn at H2 H3
  generalize (z.den : Int) = zd at H2 H3
  replace H2 := Lib.hid H2
  go_wp2_with fail
  (with_reducible refine (H2.out _).mono ?_); rintro _ w4 ⟨rfl, hb⟩
  clear s0 s1 s2 s3 kS t0 t1 kT r0 r1 rf0 rf1 kR v0 v1 vf0 vf1 kV x0 x1 xf0 xf1 kX
  have bS := bS.below hb bS.lt
  have bT := bT.below hb bT.lt
  have bR := bR.below hb bR.lt
  have bV := bV.below hb bV.lt
  have bX := bX.below hb bX.lt
  have hB := hB.trans (hb.mono hB.size)
  clear hb
  have s0 := bS.cell 0
  have s1 := bS.cell 1
  have s2 := bS.cell 2
  have s3 := bS.cell 3
  have kS := bS.lt
  have t0 := bT.cell 0
  have t1 := bT.cell 1
  have kT := bT.lt
  have r0 := bR.cell 0
  have r1 := bR.cell 1
  have rf0 := bR.frozen 0
  have rf1 := bR.frozen 1
  have kR := bR.lt
  have v0 := bV.cell 0
  have v1 := bV.cell 1
  have vf0 := bV.frozen 0
  have vf1 := bV.frozen 1
  have kV := bV.lt
  have x0 := bX.cell 0
  have x1 := bX.cell 1
  have xf0 := bX.frozen 0
  have xf1 := bX.frozen 1
  have kX := bX.lt
  have bS := (bS.far (p := ⟨w3.heap.size, 0, none⟩) (by first | omega | (simp; done) | (simp; omega)) (.int .i64 zn)).far (p := ⟨w3.heap.size, 1, none⟩) (by first | omega | (simp; done) | (simp; omega)) (.int .i64 zd)
  have bT := (bT.far (p := ⟨w3.heap.size, 0, none⟩) (by first | omega | (simp; done) | (simp; omega)) (.int .i64 zn)).far (p := ⟨w3.heap.size, 1, none⟩) (by first | omega | (simp; done) | (simp; omega)) (.int .i64 zd)
  have bR := (bR.far (p := ⟨w3.heap.size, 0, none⟩) (by first | omega | (simp; done) | (simp; omega)) (.int .i64 zn)).far (p := ⟨w3.heap.size, 1, none⟩) (by first | omega | (simp; done) | (simp; omega)) (.int .i64 zd)
  have bV := (bV.far (p := ⟨w3.heap.size, 0, none⟩) (by first | omega | (simp; done) | (simp; omega)) (.int .i64 zn)).far (p := ⟨w3.heap.size, 1, none⟩) (by first | omega | (simp; done) | (simp; omega)) (.int .i64 zd)
  have bX := bX.set2 (.int .i64 zn) (.int .i64 zd)
  have hB := (hB.setCell (p := ⟨w3.heap.size, 0, none⟩) (by first | omega | (simp; done) | (simp; omega)) (.int .i64 zn)).setCell (p := ⟨w3.heap.size, 1, none⟩) (by first | omega | (simp; done) | (simp; omega)) (.int .i64 zd)
  clear H2
  have hend : Hid (res = numV (if Fit (x - z) then some (x - z) else none)) := by unfold Hid; rw [← hres.out]; rfl
  obtain ⟨⟨qn, qd, qe⟩, hq⟩ : ∃ q, numV (if Fit (x - z) then some (x - z) else none) = q := ⟨_, rfl⟩
  simp only [hq] at H3 hend
  simp only [ratV] at H3
  replace H3 := Lib.hid H3
  clear hres hq
  go_wp2_with fail
  (with_reducible refine (H3.out _).mono ?_); rintro _ w5 ⟨rfl, hb⟩
  clear s0 s1 s2 s3 kS t0 t1 kT r0 r1 rf0 rf1 kR v0 v1 vf0 vf1 kV x0 x1 xf0 xf1 kX
  have bS := bS.below hb bS.lt
  have bT := bT.below hb bT.lt
  have bR := bR.below hb bR.lt
  have bV := bV.below hb bV.lt
  have bX := bX.below hb bX.lt
  have hB := hB.trans (hb.mono hB.size)
  clear hb
  have s0 := bS.cell 0
  have s1 := bS.cell 1
  have s2 := bS.cell 2
  have s3 := bS.cell 3
  have kS := bS.lt
  have t0 := bT.cell 0
  have t1 := bT.cell 1
  have kT := bT.lt
  have r0 := bR.cell 0
  have r1 := bR.cell 1
  have rf0 := bR.frozen 0
  have rf1 := bR.frozen 1
  have kR := bR.lt
  have v0 := bV.cell 0
  have v1 := bV.cell 1
  have vf0 := bV.frozen 0
  have vf1 := bV.frozen 1
  have kV := bV.lt
  have x0 := bX.cell 0
  have x1 := bX.cell 1
  have xf0 := bX.frozen 0
  have xf1 := bX.frozen 1
  have kX := bX.lt
  have bS := (bS.far (p := ⟨w.heap.size + 1 + 1, 0, none⟩) (by first | omega | (simp; done) | (simp; omega)) (.int .i64 qn)).far (p := ⟨w.heap.size + 1 + 1, 1, none⟩) (by first | omega | (simp; done) | (simp; omega)) (.int .i64 qd)
  have bT := (bT.far (p := ⟨w.heap.size + 1 + 1, 0, none⟩) (by first | omega | (simp; done) | (simp; omega)) (.int .i64 qn)).far (p := ⟨w.heap.size + 1 + 1, 1, none⟩) (by first | omega | (simp; done) | (simp; omega)) (.int .i64 qd)
  have bR := bR.set2 (.int .i64 qn) (.int .i64 qd)
  have bV := (bV.far (p := ⟨w.heap.size + 1 + 1, 0, none⟩) (by first | omega | (simp; done) | (simp; omega)) (.int .i64 qn)).far (p := ⟨w.heap.size + 1 + 1, 1, none⟩) (by first | omega | (simp; done) | (simp; omega)) (.int .i64 qd)
  have bX := (bX.far (p := ⟨w.heap.size + 1 + 1, 0, none⟩) (by first | omega | (simp; done) | (simp; omega)) (.int .i64 qn)).far (p := ⟨w.heap.size + 1 + 1, 1, none⟩) (by first | omega | (simp; done) | (simp; omega)) (.int .i64 qd)
  have hB := (hB.setCell (p := ⟨w.heap.size + 1 + 1, 0, none⟩) (by first | omega | (simp; done) | (simp; omega)) (.int .i64 qn)).setCell (p := ⟨w.heap.size + 1 + 1, 1, none⟩) (by first | omega | (simp; done) | (simp; omega)) (.int .i64 qd)
  have hBe := Lib.hid hB
  go_wp2_with fail
  refine bodyPost_ret (v := ratV (qn, qd, qe)) (by simp [results, Tryz.results79, go_sem, ratV, r0, r1]) rfl ⟨by rw [hend.out], hBe.out⟩
end Go.Proofs.YtbncfknjgldcbaaGreat
