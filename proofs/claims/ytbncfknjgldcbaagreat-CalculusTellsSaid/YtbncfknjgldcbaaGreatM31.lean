/- Merged texts: TDel. -/
import Derived.Test.YtbncfknjgldcbaaGreatM29
/- The reference's delayAt. -/
namespace Go.Proofs.YtbncfknjgldcbaaGreat
open Go.RowKit Go.Joins Go.Shelf Go.Sort Num

set_option maxRecDepth 100000 in
set_option maxHeartbeats 4000000 in
theorem rdelay_any (A : Option Addr) (cap : Nat) (cs : List (List Buck)) (hl : cs.length ≤ 1048576) (r L t : Rat) (hr : Fit r) (hr0 : r ≠ 0) (hL : Fit L) (ht : Fit t) (ht0 : 0 ≤ t) (w : World) (hI : isL A cs w) :
    Calls Tryz.prog 75 #[.slice A cs.length cap, .agg #[.int .i64 r.num, .int .i64 r.den, .int .i64 L.num, .int .i64 L.den], .agg #[.int .i64 t.num, .int .i64 t.den]] w fun e w' => e = .returned (ratV (numV (delayO cs r L t))) ∧ Below w.heap.size w w' := by
  have hB := (((Below.refl w.heap.size w).alloc (Nat.le_refl _) (.cells #[.int .i64 r.num, .int .i64 r.den, .int .i64 L.num, .int .i64 L.den] 52)).alloc (by simp) (.cells #[.int .i64 t.num, .int .i64 t.den] 25)).alloc (by simp; omega) (.cells #[.int .i64 0, .int .i64 0] 25)
  have HT := rtotal_any A cap cs t hl ht ht0 _ (cl_isL A cs w _ hI hB)
  have bS := ((BoxN.new w 52 #[.int .i64 r.num, .int .i64 r.den, .int .i64 L.num, .int .i64 L.den]).alloc (.cells #[.int .i64 t.num, .int .i64 t.den] 25)).alloc (.cells #[.int .i64 0, .int .i64 0] 25)
  have bT := (BoxN.new (w.alloc (.cells #[.int .i64 r.num, .int .i64 r.den, .int .i64 L.num, .int .i64 L.den] 52)) 25 #[.int .i64 t.num, .int .i64 t.den]).alloc (.cells #[.int .i64 0, .int .i64 0] 25)
  have bR := BoxN.new ((w.alloc (.cells #[.int .i64 r.num, .int .i64 r.den, .int .i64 L.num, .int .i64 L.den] 52)).alloc (.cells #[.int .i64 t.num, .int .i64 t.den] 25)) 25 #[.int .i64 0, .int .i64 0]
  rw [World.size_alloc] at bT
  rw [World.size_alloc, World.size_alloc] at bR
  have hfit : fitO (totO cs t) := sumO_fit
  have HD : ∀ (x : Rat) (_ : Fit x) (W : World), Calls Tryz.prog 60 #[.int .i64 3, .agg #[.int .i64 x.num, .int .i64 x.den], .agg #[.int .i64 r.num, .int .i64 r.den]] W fun e w' => e = .returned (ratV (ofR (x / r))) ∧ Below W.heap.size W w' := fun x hx W => Ref.div_r hx hr W hr0
  have HS : ∀ (x : Rat) (_ : Fit x) (W : World), Calls Tryz.prog 60 #[.int .i64 1, .agg #[.int .i64 x.num, .int .i64 x.den], .agg #[.int .i64 t.num, .int .i64 t.den]] W fun e w' => e = .returned (ratV (ofR (x - t))) ∧ Below W.heap.size W w' := fun x hx W => Ref.sub_r hx ht W
  have HA : ∀ (x : Rat) (_ : Fit x) (W : World), Calls Tryz.prog 60 #[.int .i64 0, .agg #[.int .i64 x.num, .int .i64 x.den], .agg #[.int .i64 L.num, .int .i64 L.den]] W fun e w' => e = .returned (ratV (ofR (x + L))) ∧ Below W.heap.size W w' := fun x hx W => Ref.add_r hx hL W
  unfold delayO
  generalize totO cs t = o at HT hfit ⊢
  generalize t.num = tn at *
  generalize (t.den : Int) = td at *
  generalize r.num = rn at *
  generalize (r.den : Int) = rd at *
  generalize L.num = Ln at *
  generalize (L.den : Int) = Ld at *
  replace HD := Lib.hid HD
  replace HS := Lib.hid HS
  replace HA := Lib.hid HA
  clear hI ht ht0 hr hr0 hL
  have t0 := bT.cell 0
  have t1 := bT.cell 1
  have kT := bT.lt
  rcases o with _ | x
  · simp only [numV, ratV] at HT
    replace HT := Lib.hid HT
    go_enter Tryz.func75, Tryz.ntmps75
    go_wp2_with fail
    (with_reducible refine (HT.out).mono ?_); rintro _ w1 ⟨rfl, hb⟩
    clear t0 t1 kT
    have hz1 := hb.size
    simp only [World.size_alloc] at hz1
    have bS := bS.below hb bS.lt
    have bT := bT.below hb bT.lt
    have bR := bR.below hb bR.lt
    have hB := hB.trans (hb.mono hB.size)
    clear hb
    have bV := BoxN.new w1 25 #[.int .i64 0, .int .i64 0]
    have bS := bS.alloc (.cells #[.int .i64 0, .int .i64 0] 25)
    have bT := bT.alloc (.cells #[.int .i64 0, .int .i64 0] 25)
    have bR := bR.alloc (.cells #[.int .i64 0, .int .i64 0] 25)
    have hB := hB.alloc hB.size (.cells #[.int .i64 0, .int .i64 0] 25)
    have r0 := bR.cell 0
    have r1 := bR.cell 1
    have rf0 := bR.frozen 0
    have rf1 := bR.frozen 1
    have kR := bR.lt
    have hBe := Lib.hid ((hB.setCell (p := ⟨w.heap.size + 1 + 1, 0, none⟩) (by simp; omega) (.int .i64 0)).setCell (p := ⟨w.heap.size + 1 + 1, 1, none⟩) (by simp; omega) (.int .i64 0))
    go_wp2_with fail
    refine bodyPost_ret (v := ratV (0, 0, 3)) (by simp [results, Tryz.results75, go_sem, ratV, r0, r1]) rfl ⟨rfl, hBe.out⟩
  have hx := hfit x rfl
  simp only [numV, ratV] at HT
  replace HT := Lib.hid HT
  have H1 := fun W => HD.out x hx W
  simp only [ofR_num] at H1
  obtain ⟨res, hres⟩ : ∃ res, numV (opO (· + L) (opO (· - t) (opO (· / r) (some x)))) = res := ⟨_, rfl⟩
  rw [hres]
  replace hres := Lib.hid hres
  generalize x.num = xn at HT H1
  generalize (x.den : Int) = xd at HT H1
  go_enter Tryz.func75, Tryz.ntmps75
  go_wp2_with fail
  (with_reducible refine (HT.out).mono ?_); rintro _ w1 ⟨rfl, hb⟩
  clear t0 t1 kT
  have hz1 := hb.size
  simp only [World.size_alloc] at hz1
  have bS := bS.below hb bS.lt
  have bT := bT.below hb bT.lt
  have bR := bR.below hb bR.lt
  have hB := hB.trans (hb.mono hB.size)
  clear hb
  have bV := BoxN.new w1 25 #[.int .i64 xn, .int .i64 xd]
  have bS := bS.alloc (.cells #[.int .i64 xn, .int .i64 xd] 25)
  have bT := bT.alloc (.cells #[.int .i64 xn, .int .i64 xd] 25)
  have bR := bR.alloc (.cells #[.int .i64 xn, .int .i64 xd] 25)
  have hB := hB.alloc hB.size (.cells #[.int .i64 xn, .int .i64 xd] 25)
  have s0 := bS.cell 0
  have s1 := bS.cell 1
  have s2 := bS.cell 2
  have s3 := bS.cell 3
  have kS := bS.lt
  have t0 := bT.cell 0
  have t1 := bT.cell 1
  have kT := bT.lt
  have r0 := bR.cell 0
  have r1 := bR.cell 1
  have rf0 := bR.frozen 0
  have rf1 := bR.frozen 1
  have kR := bR.lt
  have v0 := bV.cell 0
  have v1 := bV.cell 1
  have vf0 := bV.frozen 0
  have vf1 := bV.frozen 1
  have kV := bV.lt
  by_cases hf0 : Fit (x / r)
  case neg =>
    rw [if_neg hf0] at H1
    have hend : Hid (res = (0, 0, 3)) := by unfold Hid; rw [← hres.out, opO_no (f := (· / r)) hf0]; rfl
    clear hres
    simp only [numV, ratV] at H1
    replace H1 := Lib.hid H1
    clear hf0
    go_wp2_with fail
    (with_reducible refine (H1.out _).mono ?_); rintro _ w2 ⟨rfl, hb⟩
    clear s0 s1 s2 s3 kS t0 t1 kT r0 r1 rf0 rf1 kR v0 v1 vf0 vf1 kV
    have bS := bS.below hb bS.lt
    have bT := bT.below hb bT.lt
    have bR := bR.below hb bR.lt
    have bV := bV.below hb bV.lt
    have hB := hB.trans (hb.mono hB.size)
    clear hb
    have s0 := bS.cell 0
    have s1 := bS.cell 1
    have s2 := bS.cell 2
    have s3 := bS.cell 3
    have kS := bS.lt
    have t0 := bT.cell 0
    have t1 := bT.cell 1
    have kT := bT.lt
    have r0 := bR.cell 0
    have r1 := bR.cell 1
    have rf0 := bR.frozen 0
    have rf1 := bR.frozen 1
    have kR := bR.lt
    have v0 := bV.cell 0
    have v1 := bV.cell 1
    have vf0 := bV.frozen 0
    have vf1 := bV.frozen 1
    have kV := bV.lt
    have bS := (bS.far (p := ⟨w1.heap.size, 0, none⟩) (by first | omega | (simp; done) | (simp; omega)) (.int .i64 0)).far (p := ⟨w1.heap.size, 1, none⟩) (by first | omega | (simp; done) | (simp; omega)) (.int .i64 0)
    have bT := (bT.far (p := ⟨w1.heap.size, 0, none⟩) (by first | omega | (simp; done) | (simp; omega)) (.int .i64 0)).far (p := ⟨w1.heap.size, 1, none⟩) (by first | omega | (simp; done) | (simp; omega)) (.int .i64 0)
    have bR := (bR.far (p := ⟨w1.heap.size, 0, none⟩) (by first | omega | (simp; done) | (simp; omega)) (.int .i64 0)).far (p := ⟨w1.heap.size, 1, none⟩) (by first | omega | (simp; done) | (simp; omega)) (.int .i64 0)
    have bV := bV.set2 (.int .i64 0) (.int .i64 0)
    have hB := (hB.setCell (p := ⟨w1.heap.size, 0, none⟩) (by first | omega | (simp; done) | (simp; omega)) (.int .i64 0)).setCell (p := ⟨w1.heap.size, 1, none⟩) (by first | omega | (simp; done) | (simp; omega)) (.int .i64 0)
    have bS := (bS.far (p := ⟨w.heap.size + 1 + 1, 0, none⟩) (by first | omega | (simp; done) | (simp; omega)) (.int .i64 0)).far (p := ⟨w.heap.size + 1 + 1, 1, none⟩) (by first | omega | (simp; done) | (simp; omega)) (.int .i64 0)
    have bT := (bT.far (p := ⟨w.heap.size + 1 + 1, 0, none⟩) (by first | omega | (simp; done) | (simp; omega)) (.int .i64 0)).far (p := ⟨w.heap.size + 1 + 1, 1, none⟩) (by first | omega | (simp; done) | (simp; omega)) (.int .i64 0)
    have bR := bR.set2 (.int .i64 0) (.int .i64 0)
    have bV := (bV.far (p := ⟨w.heap.size + 1 + 1, 0, none⟩) (by first | omega | (simp; done) | (simp; omega)) (.int .i64 0)).far (p := ⟨w.heap.size + 1 + 1, 1, none⟩) (by first | omega | (simp; done) | (simp; omega)) (.int .i64 0)
    have hB := (hB.setCell (p := ⟨w.heap.size + 1 + 1, 0, none⟩) (by first | omega | (simp; done) | (simp; omega)) (.int .i64 0)).setCell (p := ⟨w.heap.size + 1 + 1, 1, none⟩) (by first | omega | (simp; done) | (simp; omega)) (.int .i64 0)
    have hBe := Lib.hid hB
    go_wp2_with fail
    refine bodyPost_ret (v := ratV (0, 0, 3)) (by simp [results, Tryz.results75, go_sem, ratV, r0, r1]) rfl ⟨by rw [hend.out], hBe.out⟩
  rw [if_pos hf0] at H1
  replace hres := hres.out
  rw [opO_yes (f := (· / r)) hf0] at hres
  generalize x / r = y at hf0 H1 hres
  replace hres := Lib.hid hres
  have H2 := fun W => HS.out y hf0 W
  simp only [ofR_num] at H2
  simp only [numV, ratV] at H1
  generalize y.num = yn at H1 H2
  generalize (y.den : Int) = yd at H1 H2
  replace H1 := Lib.hid H1
  go_wp2_with fail
  (with_reducible refine (H1.out _).mono ?_); rintro _ w2 ⟨rfl, hb⟩
  clear s0 s1 s2 s3 kS t0 t1 kT r0 r1 rf0 rf1 kR v0 v1 vf0 vf1 kV
  have bS := bS.below hb bS.lt
  have bT := bT.below hb bT.lt
  have bR := bR.below hb bR.lt
  have bV := bV.below hb bV.lt
  have hB := hB.trans (hb.mono hB.size)
  clear hb
  have s0 := bS.cell 0
  have s1 := bS.cell 1
  have s2 := bS.cell 2
  have s3 := bS.cell 3
  have kS := bS.lt
  have t0 := bT.cell 0
  have t1 := bT.cell 1
  have kT := bT.lt
  have r0 := bR.cell 0
  have r1 := bR.cell 1
  have rf0 := bR.frozen 0
  have rf1 := bR.frozen 1
  have kR := bR.lt
  have v0 := bV.cell 0
  have v1 := bV.cell 1
  have vf0 := bV.frozen 0
  have vf1 := bV.frozen 1
  have kV := bV.lt
  have bS := (bS.far (p := ⟨w1.heap.size, 0, none⟩) (by first | omega | (simp; done) | (simp; omega)) (.int .i64 yn)).far (p := ⟨w1.heap.size, 1, none⟩) (by first | omega | (simp; done) | (simp; omega)) (.int .i64 yd)
  have bT := (bT.far (p := ⟨w1.heap.size, 0, none⟩) (by first | omega | (simp; done) | (simp; omega)) (.int .i64 yn)).far (p := ⟨w1.heap.size, 1, none⟩) (by first | omega | (simp; done) | (simp; omega)) (.int .i64 yd)
  have bR := (bR.far (p := ⟨w1.heap.size, 0, none⟩) (by first | omega | (simp; done) | (simp; omega)) (.int .i64 yn)).far (p := ⟨w1.heap.size, 1, none⟩) (by first | omega | (simp; done) | (simp; omega)) (.int .i64 yd)
  have bV := bV.set2 (.int .i64 yn) (.int .i64 yd)
  have hB := (hB.setCell (p := ⟨w1.heap.size, 0, none⟩) (by first | omega | (simp; done) | (simp; omega)) (.int .i64 yn)).setCell (p := ⟨w1.heap.size, 1, none⟩) (by first | omega | (simp; done) | (simp; omega)) (.int .i64 yd)
  clear H1
  by_cases hf1 : Fit (y - t)
  case neg =>
    rw [if_neg hf1] at H2
    have hend : Hid (res = (0, 0, 3)) := by unfold Hid; rw [← hres.out, opO_no (f := (· - t)) hf1]; rfl
    clear hres
    simp only [numV, ratV] at H2
    replace H2 := Lib.hid H2
    clear hf1
    go_wp2_with fail
    (with_reducible refine (H2.out _).mono ?_); rintro _ w3 ⟨rfl, hb⟩
    clear s0 s1 s2 s3 kS t0 t1 kT r0 r1 rf0 rf1 kR v0 v1 vf0 vf1 kV
    have bS := bS.below hb bS.lt
    have bT := bT.below hb bT.lt
    have bR := bR.below hb bR.lt
    have bV := bV.below hb bV.lt
    have hB := hB.trans (hb.mono hB.size)
    clear hb
    have s0 := bS.cell 0
    have s1 := bS.cell 1
    have s2 := bS.cell 2
    have s3 := bS.cell 3
    have kS := bS.lt
    have t0 := bT.cell 0
    have t1 := bT.cell 1
    have kT := bT.lt
    have r0 := bR.cell 0
    have r1 := bR.cell 1
    have rf0 := bR.frozen 0
    have rf1 := bR.frozen 1
    have kR := bR.lt
    have v0 := bV.cell 0
    have v1 := bV.cell 1
    have vf0 := bV.frozen 0
    have vf1 := bV.frozen 1
    have kV := bV.lt
    have bS := (bS.far (p := ⟨w1.heap.size, 0, none⟩) (by first | omega | (simp; done) | (simp; omega)) (.int .i64 0)).far (p := ⟨w1.heap.size, 1, none⟩) (by first | omega | (simp; done) | (simp; omega)) (.int .i64 0)
    have bT := (bT.far (p := ⟨w1.heap.size, 0, none⟩) (by first | omega | (simp; done) | (simp; omega)) (.int .i64 0)).far (p := ⟨w1.heap.size, 1, none⟩) (by first | omega | (simp; done) | (simp; omega)) (.int .i64 0)
    have bR := (bR.far (p := ⟨w1.heap.size, 0, none⟩) (by first | omega | (simp; done) | (simp; omega)) (.int .i64 0)).far (p := ⟨w1.heap.size, 1, none⟩) (by first | omega | (simp; done) | (simp; omega)) (.int .i64 0)
    have bV := bV.set2 (.int .i64 0) (.int .i64 0)
    have hB := (hB.setCell (p := ⟨w1.heap.size, 0, none⟩) (by first | omega | (simp; done) | (simp; omega)) (.int .i64 0)).setCell (p := ⟨w1.heap.size, 1, none⟩) (by first | omega | (simp; done) | (simp; omega)) (.int .i64 0)
    have bS := (bS.far (p := ⟨w.heap.size + 1 + 1, 0, none⟩) (by first | omega | (simp; done) | (simp; omega)) (.int .i64 0)).far (p := ⟨w.heap.size + 1 + 1, 1, none⟩) (by first | omega | (simp; done) | (simp; omega)) (.int .i64 0)
    have bT := (bT.far (p := ⟨w.heap.size + 1 + 1, 0, none⟩) (by first | omega | (simp; done) | (simp; omega)) (.int .i64 0)).far (p := ⟨w.heap.size + 1 + 1, 1, none⟩) (by first | omega | (simp; done) | (simp; omega)) (.int .i64 0)
    have bR := bR.set2 (.int .i64 0) (.int .i64 0)
    have bV := (bV.far (p := ⟨w.heap.size + 1 + 1, 0, none⟩) (by first | omega | (simp; done) | (simp; omega)) (.int .i64 0)).far (p := ⟨w.heap.size + 1 + 1, 1, none⟩) (by first | omega | (simp; done) | (simp; omega)) (.int .i64 0)
    have hB := (hB.setCell (p := ⟨w.heap.size + 1 + 1, 0, none⟩) (by first | omega | (simp; done) | (simp; omega)) (.int .i64 0)).setCell (p := ⟨w.heap.size + 1 + 1, 1, none⟩) (by first | omega | (simp; done) | (simp; omega)) (.int .i64 0)
    have hBe := Lib.hid hB
    go_wp2_with fail
    refine bodyPost_ret (v := ratV (0, 0, 3)) (by simp [results, Tryz.results75, go_sem, ratV, r0, r1]) rfl ⟨by rw [hend.out], hBe.out⟩
  rw [if_pos hf1] at H2
  replace hres := hres.out
  rw [opO_yes (f := (· - t)) hf1] at hres
  generalize y - t = z at hf1 H2 hres
  replace hres := Lib.hid hres
  have H3 := fun W => HA.out z hf1 W
  simp only [ofR_num] at H3
  simp only [numV, ratV] at H2
  generalize z.num = zn at H2 H3
  generalize (z.den : Int) = zd at H2 H3
  replace H2 := Lib.hid H2
  go_wp2_with fail
  (with_reducible refine (H2.out _).mono ?_); rintro _ w3 ⟨rfl, hb⟩
  clear s0 s1 s2 s3 kS t0 t1 kT r0 r1 rf0 rf1 kR v0 v1 vf0 vf1 kV
  have bS := bS.below hb bS.lt
  have bT := bT.below hb bT.lt
  have bR := bR.below hb bR.lt
  have bV := bV.below hb bV.lt
  have hB := hB.trans (hb.mono hB.size)
  clear hb
  have s0 := bS.cell 0
  have s1 := bS.cell 1
  have s2 := bS.cell 2
  have s3 := bS.cell 3
  have kS := bS.lt
  have t0 := bT.cell 0
  have t1 := bT.cell 1
  have kT := bT.lt
  have r0 := bR.cell 0
  have r1 := bR.cell 1
  have rf0 := bR.frozen 0
  have rf1 := bR.frozen 1
  have kR := bR.lt
  have v0 := bV.cell 0
  have v1 := bV.cell 1
  have vf0 := bV.frozen 0
  have vf1 := bV.frozen 1
  have kV := bV.lt
  have bS := (bS.far (p := ⟨w1.heap.size, 0, none⟩) (by first | omega | (simp; done) | (simp; omega)) (.int .i64 zn)).far (p := ⟨w1.heap.size, 1, none⟩) (by first | omega | (simp; done) | (simp; omega)) (.int .i64 zd)
  have bT := (bT.far (p := ⟨w1.heap.size, 0, none⟩) (by first | omega | (simp; done) | (simp; omega)) (.int .i64 zn)).far (p := ⟨w1.heap.size, 1, none⟩) (by first | omega | (simp; done) | (simp; omega)) (.int .i64 zd)
  have bR := (bR.far (p := ⟨w1.heap.size, 0, none⟩) (by first | omega | (simp; done) | (simp; omega)) (.int .i64 zn)).far (p := ⟨w1.heap.size, 1, none⟩) (by first | omega | (simp; done) | (simp; omega)) (.int .i64 zd)
  have bV := bV.set2 (.int .i64 zn) (.int .i64 zd)
  have hB := (hB.setCell (p := ⟨w1.heap.size, 0, none⟩) (by first | omega | (simp; done) | (simp; omega)) (.int .i64 zn)).setCell (p := ⟨w1.heap.size, 1, none⟩) (by first | omega | (simp; done) | (simp; omega)) (.int .i64 zd)
  clear H2
  by_cases hf2 : Fit (z + L)
  case neg =>
    rw [if_neg hf2] at H3
    have hend : Hid (res = (0, 0, 3)) := by unfold Hid; rw [← hres.out, opO_no (f := (· + L)) hf2]; rfl
    clear hres
    simp only [numV, ratV] at H3
    replace H3 := Lib.hid H3
    clear hf2
    go_wp2_with fail
    (with_reducible refine (H3.out _).mono ?_); rintro _ w4 ⟨rfl, hb⟩
    clear s0 s1 s2 s3 kS t0 t1 kT r0 r1 rf0 rf1 kR v0 v1 vf0 vf1 kV
    have bS := bS.below hb bS.lt
    have bT := bT.below hb bT.lt
    have bR := bR.below hb bR.lt
    have bV := bV.below hb bV.lt
    have hB := hB.trans (hb.mono hB.size)
    clear hb
    have s0 := bS.cell 0
    have s1 := bS.cell 1
    have s2 := bS.cell 2
    have s3 := bS.cell 3
    have kS := bS.lt
    have t0 := bT.cell 0
    have t1 := bT.cell 1
    have kT := bT.lt
    have r0 := bR.cell 0
    have r1 := bR.cell 1
    have rf0 := bR.frozen 0
    have rf1 := bR.frozen 1
    have kR := bR.lt
    have v0 := bV.cell 0
    have v1 := bV.cell 1
    have vf0 := bV.frozen 0
    have vf1 := bV.frozen 1
    have kV := bV.lt
    have bS := (bS.far (p := ⟨w.heap.size + 1 + 1, 0, none⟩) (by first | omega | (simp; done) | (simp; omega)) (.int .i64 0)).far (p := ⟨w.heap.size + 1 + 1, 1, none⟩) (by first | omega | (simp; done) | (simp; omega)) (.int .i64 0)
    have bT := (bT.far (p := ⟨w.heap.size + 1 + 1, 0, none⟩) (by first | omega | (simp; done) | (simp; omega)) (.int .i64 0)).far (p := ⟨w.heap.size + 1 + 1, 1, none⟩) (by first | omega | (simp; done) | (simp; omega)) (.int .i64 0)
    have bR := bR.set2 (.int .i64 0) (.int .i64 0)
    have bV := (bV.far (p := ⟨w.heap.size + 1 + 1, 0, none⟩) (by first | omega | (simp; done) | (simp; omega)) (.int .i64 0)).far (p := ⟨w.heap.size + 1 + 1, 1, none⟩) (by first | omega | (simp; done) | (simp; omega)) (.int .i64 0)
    have hB := (hB.setCell (p := ⟨w.heap.size + 1 + 1, 0, none⟩) (by first | omega | (simp; done) | (simp; omega)) (.int .i64 0)).setCell (p := ⟨w.heap.size + 1 + 1, 1, none⟩) (by first | omega | (simp; done) | (simp; omega)) (.int .i64 0)
    have hBe := Lib.hid hB
    go_wp2_with fail
    refine bodyPost_ret (v := ratV (0, 0, 3)) (by simp [results, Tryz.results75, go_sem, ratV, r0, r1]) rfl ⟨by rw [hend.out], hBe.out⟩
  rw [if_pos hf2] at H3
  replace hres := hres.out
  rw [opO_yes (f := (· + L)) hf2] at hres
  generalize z + L = q at hf2 H3 hres
  replace hres := Lib.hid hres
  simp only [numV, ratV] at H3
  have hend : res = (q.num, (q.den : Int), 0) := by rw [← hres.out]; rfl
  clear hres
  generalize q.num = qn at H3 hend
  generalize (q.den : Int) = qd at H3 hend
  replace hend := Lib.hid hend
  replace H3 := Lib.hid H3
  go_wp2_with fail
  (with_reducible refine (H3.out _).mono ?_); rintro _ w4 ⟨rfl, hb⟩
  clear s0 s1 s2 s3 kS t0 t1 kT r0 r1 rf0 rf1 kR v0 v1 vf0 vf1 kV
  have bS := bS.below hb bS.lt
  have bT := bT.below hb bT.lt
  have bR := bR.below hb bR.lt
  have bV := bV.below hb bV.lt
  have hB := hB.trans (hb.mono hB.size)
  clear hb
  have s0 := bS.cell 0
  have s1 := bS.cell 1
  have s2 := bS.cell 2
  have s3 := bS.cell 3
  have kS := bS.lt
  have t0 := bT.cell 0
  have t1 := bT.cell 1
  have kT := bT.lt
  have r0 := bR.cell 0
  have r1 := bR.cell 1
  have rf0 := bR.frozen 0
  have rf1 := bR.frozen 1
  have kR := bR.lt
  have v0 := bV.cell 0
  have v1 := bV.cell 1
  have vf0 := bV.frozen 0
  have vf1 := bV.frozen 1
  have kV := bV.lt
  have bS := (bS.far (p := ⟨w.heap.size + 1 + 1, 0, none⟩) (by first | omega | (simp; done) | (simp; omega)) (.int .i64 qn)).far (p := ⟨w.heap.size + 1 + 1, 1, none⟩) (by first | omega | (simp; done) | (simp; omega)) (.int .i64 qd)
  have bT := (bT.far (p := ⟨w.heap.size + 1 + 1, 0, none⟩) (by first | omega | (simp; done) | (simp; omega)) (.int .i64 qn)).far (p := ⟨w.heap.size + 1 + 1, 1, none⟩) (by first | omega | (simp; done) | (simp; omega)) (.int .i64 qd)
  have bR := bR.set2 (.int .i64 qn) (.int .i64 qd)
  have bV := (bV.far (p := ⟨w.heap.size + 1 + 1, 0, none⟩) (by first | omega | (simp; done) | (simp; omega)) (.int .i64 qn)).far (p := ⟨w.heap.size + 1 + 1, 1, none⟩) (by first | omega | (simp; done) | (simp; omega)) (.int .i64 qd)
  have hB := (hB.setCell (p := ⟨w.heap.size + 1 + 1, 0, none⟩) (by first | omega | (simp; done) | (simp; omega)) (.int .i64 qn)).setCell (p := ⟨w.heap.size + 1 + 1, 1, none⟩) (by first | omega | (simp; done) | (simp; omega)) (.int .i64 qd)
  have hBe := Lib.hid hB
  go_wp2_with fail
  refine bodyPost_ret (v := ratV (qn, qd, 0)) (by simp [results, Tryz.results75, go_sem, ratV, r0, r1]) rfl ⟨by rw [hend.out], hBe.out⟩
end Go.Proofs.YtbncfknjgldcbaaGreat
