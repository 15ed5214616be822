/- Merged texts: CVal, CBack. -/
import Derived.Test.YtbncfknjgldcbaaGreatM8
import Derived.Test.YtbncfknjgldcbaaGreatM9
/- The values that calculus.Delay and calculus.Backlog look at. -/
namespace Go.Proofs.YtbncfknjgldcbaaGreat
open Go.RowKit Go.Joins Go.Shelf Go.Sort Num

def opO (f : Rat → Rat) (o : Option Rat) : Option Rat := match o with | some x => if Fit (f x) then some (f x) else none | none => none
theorem opO_yes {f : Rat → Rat} {x : Rat} (h : Fit (f x)) : opO f (some x) = some (f x) := if_pos h
theorem opO_no {f : Rat → Rat} {x : Rat} (h : ¬ Fit (f x)) : opO f (some x) = none := if_neg h
theorem opO_fit {f : Rat → Rat} {o : Option Rat} : fitO (opO f o) := fun r h => by
  unfold opO at h
  split at h
  · split at h
    · cases h; assumption
    · cases h
  · cases h
theorem ofR_num (x : Rat) : ofR x = numV (if Fit x then some x else none) := by
  by_cases h : Fit x
  · rw [if_pos h, ofR_yes h]; rfl
  · rw [if_neg h, ofR_no h]; rfl
def delayO (cs : List (List Buck)) (r L t : Rat) : Option Rat := opO (· + L) (opO (· - t) (opO (· / r) (totO cs t)))

set_option maxRecDepth 100000 in
set_option maxHeartbeats 4000000 in
theorem delay1_any (A : Option Addr) (cap : Nat) (cs : List (List Buck)) (hl : cs.length ≤ 1048576) (r L t : Rat) (hr : Fit r) (hr0 : r ≠ 0) (hL : Fit L) (ht : Fit t) (ht0 : 0 ≤ t) (b1 b2 : Nat) (w : World)
    (h1 : BoxN w b1 50 #[.slice A cs.length cap]) (h2 : BoxN w b2 52 #[.int .i64 r.num, .int .i64 r.den, .int .i64 L.num, .int .i64 L.den]) (hI : isL A cs w) :
    Calls Tryz.prog 68 #[.agg #[.int .i64 t.num, .int .i64 t.den], .pointer (some ⟨b1, 0, none⟩), .pointer (some ⟨b2, 0, none⟩)] w fun e w' => e = .returned (ratV (numV (delayO cs r L t))) ∧ Below w.heap.size w w' := by
  have hB0 := ((Below.refl w.heap.size w).alloc (Nat.le_refl _) (.cells #[.int .i64 t.num, .int .i64 t.den] 25)).alloc (by simp) (.cells #[.int .i64 0, .int .i64 0] 25)
  have HT := total_any A cap cs t hl ht ht0 _ (cl_isL A cs w _ hI hB0)
  have HD : ∀ (x : Rat) (hx : Fit x) (W : World), Calls Tryz.prog 70 #[.agg #[.int .i64 x.num, .int .i64 x.den], .agg #[.int .i64 r.num, .int .i64 r.den]] W fun e w' => e = .returned (ratV (ofR (x / r))) ∧ Below W.heap.size W w' := fun x hx W => div_r hx hr W hr0
  have HS : ∀ (x : Rat) (hx : Fit x) (W : World), Calls Tryz.prog 71 #[.agg #[.int .i64 x.num, .int .i64 x.den], .agg #[.int .i64 t.num, .int .i64 t.den]] W fun e w' => e = .returned (ratV (ofR (x - t))) ∧ Below W.heap.size W w' := fun x hx W => sub_r hx ht W
  have HA : ∀ (x : Rat) (hx : Fit x) (W : World), Calls Tryz.prog 45 #[.agg #[.int .i64 x.num, .int .i64 x.den], .agg #[.int .i64 L.num, .int .i64 L.den]] W fun e w' => e = .returned (ratV (ofR (x + L))) ∧ Below W.heap.size W w' := fun x hx W => add_r hx hL W
  have bT := (BoxN.new w 25 #[.int .i64 t.num, .int .i64 t.den]).alloc (.cells #[.int .i64 0, .int .i64 0] 25)
  have bR := BoxN.new (w.alloc (.cells #[.int .i64 t.num, .int .i64 t.den] 25)) 25 #[.int .i64 0, .int .i64 0]
  rw [World.size_alloc] at bR
  have c1 := h1.below hB0 h1.lt
  have c2 := h2.below hB0 h2.lt
  have hfit : fitO (totO cs t) := sumO_fit
  have hk1 := h1.lt
  have hk2 := h2.lt
  unfold delayO
  generalize totO cs t = o at HT hfit ⊢
  generalize t.num = tn at hB0 HT HS bT bR c1 c2 ⊢
  generalize (t.den : Int) = td at hB0 HT HS bT bR c1 c2 ⊢
  generalize r.num = rn at HD c2
  generalize (r.den : Int) = rd at HD c2
  generalize L.num = Ln at HA c2
  generalize (L.den : Int) = Ld at HA c2
  replace HD := Lib.hid HD
  replace HS := Lib.hid HS
  replace HA := Lib.hid HA
  clear hI h1 h2
  have g1 := c1.cell 0
  have g2 := bT.cell 0
  have g3 := bT.cell 1
  rcases o with _ | x
  · replace HT : Calls _ _ _ _ _ := HT
    simp only [numV, ratV] at HT
    replace HT := Lib.hid HT
    go_enter Tryz.func68, Tryz.ntmps68
    go_wp2_with fail
    (with_reducible refine (HT.out).mono ?_); rintro _ w1 ⟨rfl, hb1⟩
    have hB := hB0.trans (hb1.mono hB0.size)
    have bR1 := (bR.below hb1 bR.lt).alloc (.cells #[.int .i64 0, .int .i64 0] 25)
    have r0 := bR1.cell 0
    have r1 := bR1.cell 1
    have f0 := bR1.frozen 0
    have f1 := bR1.frozen 1
    have kR := bR1.lt
    clear g1 g2 g3 hb1 bR bR1 bT c1 c2
    go_wp2
    refine bodyPost_ret (v := ratV (0, 0, 3)) (by simp [results, Tryz.results68, go_sem, ratV, r0, r1]) rfl ⟨rfl, ?_⟩
    (have hBs := hB.size; (try simp only [World.size_alloc] at hBs); repeat' (first | (with_reducible exact hB) | (with_reducible exact hBs) | (with_reducible refine Below.drew ?_) | (with_reducible refine below_drewN ?_ _) | (with_reducible refine Below.setCell ?_ ?_ _) | (with_reducible refine Below.alloc ?_ ?_ _) | go_size | omega | (simp; omega)))
  have hx := hfit x rfl
  simp only [numV, ratV] at HT
  replace HT := Lib.hid HT
  have H1 := fun W => HD.out x hx W
  simp only [ofR_num] at H1
  obtain ⟨res, hres⟩ : ∃ res, numV (opO (· + L) (opO (· - t) (opO (· / r) (some x)))) = res := ⟨_, rfl⟩
  rw [hres]
  replace hres := Lib.hid hres
  generalize x.num = xn at HT H1
  generalize (x.den : Int) = xd at HT H1
  go_enter Tryz.func68, Tryz.ntmps68
  go_wp2_with fail
  (with_reducible refine (HT.out).mono ?_); rintro _ w1 ⟨rfl, hb⟩
  have hB := hB0.trans (hb.mono hB0.size)
  have hz1 := hb.size
  simp only [World.size_alloc] at hz1
  have c2 := (c2.below hb c2.lt).alloc (.cells #[.int .i64 xn, .int .i64 xd] 25)
  have bT := (bT.below hb bT.lt).alloc (.cells #[.int .i64 xn, .int .i64 xd] 25)
  have bR := (bR.below hb bR.lt).alloc (.cells #[.int .i64 xn, .int .i64 xd] 25)
  have bV := BoxN.new w1 25 #[.int .i64 xn, .int .i64 xd]
  have hB := hB.alloc hB.size (.cells #[.int .i64 xn, .int .i64 xd] 25)
  have n1 : w.heap.size ≠ w1.heap.size := by omega
  have n2 : w.heap.size + 1 ≠ w1.heap.size := by omega
  have n3 : b2 ≠ w1.heap.size := by omega
  clear g1 g2 g3 hb hB0 c1
  have v0 := bV.cell 0
  have v1 := bV.cell 1
  have v0' := bV.frozen 0
  have v1' := bV.frozen 1
  have s0 := c2.cell 0
  have s1 := c2.cell 1
  have s2 := c2.cell 2
  have s3 := c2.cell 3
  have u0 := bT.cell 0
  have u1 := bT.cell 1
  have r0 := bR.cell 0
  have r1 := bR.cell 1
  have f0 := bR.frozen 0
  have f1 := bR.frozen 1
  have kR := bR.lt
  have kV := bV.lt
  by_cases hf0 : Fit (x / r)
  case neg =>
    rw [if_neg hf0] at H1
    have hend : Hid (res = (0, 0, 3)) := by unfold Hid; rw [← hres.out, opO_no (f := (· / r)) hf0]; rfl
    clear hres
    simp only [numV, ratV] at H1
    replace H1 := Lib.hid H1
    clear hf0
    go_wp2_with fail
    (with_reducible refine (H1.out _).mono ?_); rintro _ w2 ⟨rfl, hb⟩
    clear v0 v1 v0' v1' s0 s1 s2 s3 u0 u1 r0 r1 f0 f1 kR kV
    have c2 := c2.below hb c2.lt
    have bT := bT.below hb bT.lt
    have bR := bR.below hb bR.lt
    have bV := bV.below hb bV.lt
    have hB := hB.trans (hb.mono hB.size)
    clear hb
    have v0 := bV.cell 0
    have v1 := bV.cell 1
    have v0' := bV.frozen 0
    have v1' := bV.frozen 1
    have s0 := c2.cell 0
    have s1 := c2.cell 1
    have s2 := c2.cell 2
    have s3 := c2.cell 3
    have u0 := bT.cell 0
    have u1 := bT.cell 1
    have r0 := bR.cell 0
    have r1 := bR.cell 1
    have f0 := bR.frozen 0
    have f1 := bR.frozen 1
    have kR := bR.lt
    have kV := bV.lt
    have c2 := (c2.far (p := ⟨w1.heap.size, 0, none⟩) (by simpa using n3) (.int .i64 0)).far (p := ⟨w1.heap.size, 1, none⟩) (by simpa using n3) (.int .i64 0)
    have bT := (bT.far (p := ⟨w1.heap.size, 0, none⟩) (by simpa using n1) (.int .i64 0)).far (p := ⟨w1.heap.size, 1, none⟩) (by simpa using n1) (.int .i64 0)
    have bR := (bR.far (p := ⟨w1.heap.size, 0, none⟩) (by simpa using n2) (.int .i64 0)).far (p := ⟨w1.heap.size, 1, none⟩) (by simpa using n2) (.int .i64 0)
    have bV := bV.set2 (.int .i64 0) (.int .i64 0)
    have hB := (hB.setCell (p := ⟨w1.heap.size, 0, none⟩) (by simp; omega) (.int .i64 0)).setCell (p := ⟨w1.heap.size, 1, none⟩) (by simp; omega) (.int .i64 0)
    have r0' := bR.cell 0
    have r1' := bR.cell 1
    go_wp2
    refine bodyPost_ret (v := ratV (0, 0, 3)) (by simp [results, Tryz.results68, go_sem, ratV, r0', r1']) rfl ⟨by rw [hend.out], ?_⟩
    (have hBs := hB.size; (try simp only [World.size_alloc] at hBs); repeat' (first | (with_reducible exact hB) | (with_reducible exact hBs) | (with_reducible refine Below.drew ?_) | (with_reducible refine below_drewN ?_ _) | (with_reducible refine Below.setCell ?_ ?_ _) | (with_reducible refine Below.alloc ?_ ?_ _) | go_size | omega | (simp; omega)))
  rw [if_pos hf0] at H1
  replace hres := hres.out
  rw [opO_yes (f := (· / r)) hf0] at hres
  generalize x / r = y at hf0 H1 hres
  replace hres := Lib.hid hres
  have H2 := fun W => HS.out y hf0 W
  simp only [ofR_num] at H2
  simp only [numV, ratV] at H1
  generalize y.num = yn at H1 H2
  generalize (y.den : Int) = yd at H1 H2
  replace H1 := Lib.hid H1
  go_wp2_with fail
  (with_reducible refine (H1.out _).mono ?_); rintro _ w2 ⟨rfl, hb⟩
  clear v0 v1 v0' v1' s0 s1 s2 s3 u0 u1 r0 r1 f0 f1 kR kV
  have c2 := c2.below hb c2.lt
  have bT := bT.below hb bT.lt
  have bR := bR.below hb bR.lt
  have bV := bV.below hb bV.lt
  have hB := hB.trans (hb.mono hB.size)
  clear hb
  have v0 := bV.cell 0
  have v1 := bV.cell 1
  have v0' := bV.frozen 0
  have v1' := bV.frozen 1
  have s0 := c2.cell 0
  have s1 := c2.cell 1
  have s2 := c2.cell 2
  have s3 := c2.cell 3
  have u0 := bT.cell 0
  have u1 := bT.cell 1
  have r0 := bR.cell 0
  have r1 := bR.cell 1
  have f0 := bR.frozen 0
  have f1 := bR.frozen 1
  have kR := bR.lt
  have kV := bV.lt
  have c2 := (c2.far (p := ⟨w1.heap.size, 0, none⟩) (by simpa using n3) (.int .i64 yn)).far (p := ⟨w1.heap.size, 1, none⟩) (by simpa using n3) (.int .i64 yd)
  have bT := (bT.far (p := ⟨w1.heap.size, 0, none⟩) (by simpa using n1) (.int .i64 yn)).far (p := ⟨w1.heap.size, 1, none⟩) (by simpa using n1) (.int .i64 yd)
  have bR := (bR.far (p := ⟨w1.heap.size, 0, none⟩) (by simpa using n2) (.int .i64 yn)).far (p := ⟨w1.heap.size, 1, none⟩) (by simpa using n2) (.int .i64 yd)
  have bV := bV.set2 (.int .i64 yn) (.int .i64 yd)
  have hB := (hB.setCell (p := ⟨w1.heap.size, 0, none⟩) (by simp; omega) (.int .i64 yn)).setCell (p := ⟨w1.heap.size, 1, none⟩) (by simp; omega) (.int .i64 yd)
  clear H1
  by_cases hf1 : Fit (y - t)
  case neg =>
    rw [if_neg hf1] at H2
    have hend : Hid (res = (0, 0, 3)) := by unfold Hid; rw [← hres.out, opO_no (f := (· - t)) hf1]; rfl
    clear hres
    simp only [numV, ratV] at H2
    replace H2 := Lib.hid H2
    clear hf1
    go_wp2_with fail
    (with_reducible refine (H2.out _).mono ?_); rintro _ w3 ⟨rfl, hb⟩
    clear v0 v1 v0' v1' s0 s1 s2 s3 u0 u1 r0 r1 f0 f1 kR kV
    have c2 := c2.below hb c2.lt
    have bT := bT.below hb bT.lt
    have bR := bR.below hb bR.lt
    have bV := bV.below hb bV.lt
    have hB := hB.trans (hb.mono hB.size)
    clear hb
    have v0 := bV.cell 0
    have v1 := bV.cell 1
    have v0' := bV.frozen 0
    have v1' := bV.frozen 1
    have s0 := c2.cell 0
    have s1 := c2.cell 1
    have s2 := c2.cell 2
    have s3 := c2.cell 3
    have u0 := bT.cell 0
    have u1 := bT.cell 1
    have r0 := bR.cell 0
    have r1 := bR.cell 1
    have f0 := bR.frozen 0
    have f1 := bR.frozen 1
    have kR := bR.lt
    have kV := bV.lt
    have c2 := (c2.far (p := ⟨w1.heap.size, 0, none⟩) (by simpa using n3) (.int .i64 0)).far (p := ⟨w1.heap.size, 1, none⟩) (by simpa using n3) (.int .i64 0)
    have bT := (bT.far (p := ⟨w1.heap.size, 0, none⟩) (by simpa using n1) (.int .i64 0)).far (p := ⟨w1.heap.size, 1, none⟩) (by simpa using n1) (.int .i64 0)
    have bR := (bR.far (p := ⟨w1.heap.size, 0, none⟩) (by simpa using n2) (.int .i64 0)).far (p := ⟨w1.heap.size, 1, none⟩) (by simpa using n2) (.int .i64 0)
    have bV := bV.set2 (.int .i64 0) (.int .i64 0)
    have hB := (hB.setCell (p := ⟨w1.heap.size, 0, none⟩) (by simp; omega) (.int .i64 0)).setCell (p := ⟨w1.heap.size, 1, none⟩) (by simp; omega) (.int .i64 0)
    have r0' := bR.cell 0
    have r1' := bR.cell 1
    go_wp2
    refine bodyPost_ret (v := ratV (0, 0, 3)) (by simp [results, Tryz.results68, go_sem, ratV, r0', r1']) rfl ⟨by rw [hend.out], ?_⟩
    (have hBs := hB.size; (try simp only [World.size_alloc] at hBs); repeat' (first | (with_reducible exact hB) | (with_reducible exact hBs) | (with_reducible refine Below.drew ?_) | (with_reducible refine below_drewN ?_ _) | (with_reducible refine Below.setCell ?_ ?_ _) | (with_reducible refine Below.alloc ?_ ?_ _) | go_size | omega | (simp; omega)))
  rw [if_pos hf1] at H2
  replace hres := hres.out
  rw [opO_yes (f := (· - t)) hf1] at hres
  generalize y - t = z at hf1 H2 hres
  replace hres := Lib.hid hres
  have H3 := fun W => HA.out z hf1 W
  simp only [ofR_num] at H3
  simp only [numV, ratV] at H2
  generalize z.num = zn at H2 H3
  generalize (z.den : Int) = zd at H2 H3
  replace H2 := Lib.hid H2
  go_wp2_with fail
  (with_reducible refine (H2.out _).mono ?_); rintro _ w3 ⟨rfl, hb⟩
  clear v0 v1 v0' v1' s0 s1 s2 s3 u0 u1 r0 r1 f0 f1 kR kV
  have c2 := c2.below hb c2.lt
  have bT := bT.below hb bT.lt
  have bR := bR.below hb bR.lt
  have bV := bV.below hb bV.lt
  have hB := hB.trans (hb.mono hB.size)
  clear hb
  have v0 := bV.cell 0
  have v1 := bV.cell 1
  have v0' := bV.frozen 0
  have v1' := bV.frozen 1
  have s0 := c2.cell 0
  have s1 := c2.cell 1
  have s2 := c2.cell 2
  have s3 := c2.cell 3
  have u0 := bT.cell 0
  have u1 := bT.cell 1
  have r0 := bR.cell 0
  have r1 := bR.cell 1
  have f0 := bR.frozen 0
  have f1 := bR.frozen 1
  have kR := bR.lt
  have kV := bV.lt
  have c2 := (c2.far (p := ⟨w1.heap.size, 0, none⟩) (by simpa using n3) (.int .i64 zn)).far (p := ⟨w1.heap.size, 1, none⟩) (by simpa using n3) (.int .i64 zd)
  have bT := (bT.far (p := ⟨w1.heap.size, 0, none⟩) (by simpa using n1) (.int .i64 zn)).far (p := ⟨w1.heap.size, 1, none⟩) (by simpa using n1) (.int .i64 zd)
  have bR := (bR.far (p := ⟨w1.heap.size, 0, none⟩) (by simpa using n2) (.int .i64 zn)).far (p := ⟨w1.heap.size, 1, none⟩) (by simpa using n2) (.int .i64 zd)
  have bV := bV.set2 (.int .i64 zn) (.int .i64 zd)
  have hB := (hB.setCell (p := ⟨w1.heap.size, 0, none⟩) (by simp; omega) (.int .i64 zn)).setCell (p := ⟨w1.heap.size, 1, none⟩) (by simp; omega) (.int .i64 zd)
  clear H2
  by_cases hf2 : Fit (z + L)
  case neg =>
    rw [if_neg hf2] at H3
    have hend : Hid (res = (0, 0, 3)) := by unfold Hid; rw [← hres.out, opO_no (f := (· + L)) hf2]; rfl
    clear hres
    simp only [numV, ratV] at H3
    replace H3 := Lib.hid H3
    clear hf2
    go_wp2_with fail
    (with_reducible refine (H3.out _).mono ?_); rintro _ w4 ⟨rfl, hb⟩
    clear v0 v1 v0' v1' s0 s1 s2 s3 u0 u1 r0 r1 f0 f1 kR kV
    have c2 := c2.below hb c2.lt
    have bT := bT.below hb bT.lt
    have bR := bR.below hb bR.lt
    have bV := bV.below hb bV.lt
    have hB := hB.trans (hb.mono hB.size)
    clear hb
    have v0 := bV.cell 0
    have v1 := bV.cell 1
    have v0' := bV.frozen 0
    have v1' := bV.frozen 1
    have s0 := c2.cell 0
    have s1 := c2.cell 1
    have s2 := c2.cell 2
    have s3 := c2.cell 3
    have u0 := bT.cell 0
    have u1 := bT.cell 1
    have r0 := bR.cell 0
    have r1 := bR.cell 1
    have f0 := bR.frozen 0
    have f1 := bR.frozen 1
    have kR := bR.lt
    have kV := bV.lt
    have c2 := (c2.far (p := ⟨w1.heap.size, 0, none⟩) (by simpa using n3) (.int .i64 0)).far (p := ⟨w1.heap.size, 1, none⟩) (by simpa using n3) (.int .i64 0)
    have bT := (bT.far (p := ⟨w1.heap.size, 0, none⟩) (by simpa using n1) (.int .i64 0)).far (p := ⟨w1.heap.size, 1, none⟩) (by simpa using n1) (.int .i64 0)
    have bR := (bR.far (p := ⟨w1.heap.size, 0, none⟩) (by simpa using n2) (.int .i64 0)).far (p := ⟨w1.heap.size, 1, none⟩) (by simpa using n2) (.int .i64 0)
    have bV := bV.set2 (.int .i64 0) (.int .i64 0)
    have hB := (hB.setCell (p := ⟨w1.heap.size, 0, none⟩) (by simp; omega) (.int .i64 0)).setCell (p := ⟨w1.heap.size, 1, none⟩) (by simp; omega) (.int .i64 0)
    have r0' := bR.cell 0
    have r1' := bR.cell 1
    go_wp2
    refine bodyPost_ret (v := ratV (0, 0, 3)) (by simp [results, Tryz.results68, go_sem, ratV, r0', r1']) rfl ⟨by rw [hend.out], ?_⟩
    (have hBs := hB.size; (try simp only [World.size_alloc] at hBs); repeat' (first | (with_reducible exact hB) | (with_reducible exact hBs) | (with_reducible refine Below.drew ?_) | (with_reducible refine below_drewN ?_ _) | (with_reducible refine Below.setCell ?_ ?_ _) | (with_reducible refine Below.alloc ?_ ?_ _) | go_size | omega | (simp; omega)))
  rw [if_pos hf2] at H3
  replace hres := hres.out
  rw [opO_yes (f := (· + L)) hf2] at hres
  generalize z + L = q at hf2 H3 hres
  replace hres := Lib.hid hres
  simp only [numV, ratV] at H3
  have hend : res = (q.num, (q.den : Int), 0) := by rw [← hres.out]; rfl
  clear hres
  generalize q.num = qn at H3 hend
  generalize (q.den : Int) = qd at H3 hend
  replace hend := Lib.hid hend
  replace H3 := Lib.hid H3
  go_wp2_with fail
  (with_reducible refine (H3.out _).mono ?_); rintro _ w4 ⟨rfl, hb⟩
  clear v0 v1 v0' v1' s0 s1 s2 s3 u0 u1 r0 r1 f0 f1 kR kV
  have c2 := c2.below hb c2.lt
  have bT := bT.below hb bT.lt
  have bR := bR.below hb bR.lt
  have bV := bV.below hb bV.lt
  have hB := hB.trans (hb.mono hB.size)
  clear hb
  have v0 := bV.cell 0
  have v1 := bV.cell 1
  have v0' := bV.frozen 0
  have v1' := bV.frozen 1
  have s0 := c2.cell 0
  have s1 := c2.cell 1
  have s2 := c2.cell 2
  have s3 := c2.cell 3
  have u0 := bT.cell 0
  have u1 := bT.cell 1
  have r0 := bR.cell 0
  have r1 := bR.cell 1
  have f0 := bR.frozen 0
  have f1 := bR.frozen 1
  have kR := bR.lt
  have kV := bV.lt
  have c2 := (c2.far (p := ⟨w1.heap.size, 0, none⟩) (by simpa using n3) (.int .i64 qn)).far (p := ⟨w1.heap.size, 1, none⟩) (by simpa using n3) (.int .i64 qd)
  have bT := (bT.far (p := ⟨w1.heap.size, 0, none⟩) (by simpa using n1) (.int .i64 qn)).far (p := ⟨w1.heap.size, 1, none⟩) (by simpa using n1) (.int .i64 qd)
  have bR := (bR.far (p := ⟨w1.heap.size, 0, none⟩) (by simpa using n2) (.int .i64 qn)).far (p := ⟨w1.heap.size, 1, none⟩) (by simpa using n2) (.int .i64 qd)
  have bV := bV.set2 (.int .i64 qn) (.int .i64 qd)
  have hB := (hB.setCell (p := ⟨w1.heap.size, 0, none⟩) (by simp; omega) (.int .i64 qn)).setCell (p := ⟨w1.heap.size, 1, none⟩) (by simp; omega) (.int .i64 qd)
  have r0' := bR.cell 0
  have r1' := bR.cell 1
  go_wp2
  refine bodyPost_ret (v := ratV (qn, qd, 0)) (by simp [results, Tryz.results68, go_sem, ratV, r0', r1']) rfl ⟨by rw [hend.out], ?_⟩
  (have hBs := hB.size; (try simp only [World.size_alloc] at hBs); repeat' (first | (with_reducible exact hB) | (with_reducible exact hBs) | (with_reducible refine Below.drew ?_) | (with_reducible refine below_drewN ?_ _) | (with_reducible refine Below.setCell ?_ ?_ _) | (with_reducible refine Below.alloc ?_ ?_ _) | go_size | omega | (simp; omega)))
end Go.Proofs.YtbncfknjgldcbaaGreat
/- The value that calculus.Backlog looks at. -/
namespace Go.Proofs.YtbncfknjgldcbaaGreat
open Go.RowKit Go.Joins Go.Shelf Go.Sort Num

/-- What a function value may answer: the number, or any number with the error. -/
def RV (o : Option Rat) (rv : Int × Int × Int) : Prop := match o with | some v => rv = (v.num, (v.den : Int), 0) | none => rv.2.2 = 3
theorem rv_num (o : Option Rat) : RV o (numV o) := by cases o <;> rfl
def backO (cs : List (List Buck)) (r L t : Rat) : Option Rat := match totO cs t with | none => none | some v => if t ≤ L then some v else opO (v - ·) (opO (r * ·) (opO (t - ·) (some L)))
theorem backO_fit (cs : List (List Buck)) (r L t : Rat) : fitO (backO cs r L t) := fun x h => by
  unfold backO at h
  have hs : fitO (totO cs t) := sumO_fit
  cases hh : totO cs t with
  | none => rw [hh] at h; cases h
  | some v =>
    rw [hh] at h
    simp only at h
    split at h
    · cases h; exact hs x hh
    · exact opO_fit x h
theorem delayO_fit (cs : List (List Buck)) (r L t : Rat) : fitO (delayO cs r L t) := opO_fit

set_option maxRecDepth 100000 in
set_option maxHeartbeats 4000000 in
theorem back1_any (A : Option Addr) (cap : Nat) (cs : List (List Buck)) (hl : cs.length ≤ 1048576) (r L t : Rat) (hr : Fit r) (hL : Fit L) (ht : Fit t) (ht0 : 0 ≤ t) (b1 b2 : Nat) (w : World)
    (h1 : BoxN w b1 50 #[.slice A cs.length cap]) (h2 : BoxN w b2 52 #[.int .i64 r.num, .int .i64 r.den, .int .i64 L.num, .int .i64 L.den]) (hI : isL A cs w) :
    Calls Tryz.prog 76 #[.agg #[.int .i64 t.num, .int .i64 t.den], .pointer (some ⟨b1, 0, none⟩), .pointer (some ⟨b2, 0, none⟩)] w fun e w' => (∃ rv, e = .returned (ratV rv) ∧ RV (backO cs r L t) rv) ∧ Below w.heap.size w w' := by
  have hB0 := ((Below.refl w.heap.size w).alloc (Nat.le_refl _) (.cells #[.int .i64 t.num, .int .i64 t.den] 25)).alloc (by simp) (.cells #[.int .i64 0, .int .i64 0] 25)
  have HT := total_any A cap cs t hl ht ht0 _ (cl_isL A cs w _ hI hB0)
  have HC : ∀ W : World, _ := fun W => cmp_r ht hL W
  have H1 : ∀ W : World, _ := fun W => sub_r ht hL W
  have H2 : ∀ (x : Rat) (hx : Fit x) (W : World), Calls Tryz.prog 77 #[.agg #[.int .i64 r.num, .int .i64 r.den], .agg #[.int .i64 x.num, .int .i64 x.den]] W fun e w' => e = .returned (ratV (ofR (r * x))) ∧ Below W.heap.size W w' := fun x hx W => mul_r hr hx W
  have H3 : ∀ (v x : Rat) (hv : Fit v) (hx : Fit x) (W : World), Calls Tryz.prog 71 #[.agg #[.int .i64 v.num, .int .i64 v.den], .agg #[.int .i64 x.num, .int .i64 x.den]] W fun e w' => e = .returned (ratV (ofR (v - x))) ∧ Below W.heap.size W w' := fun v x hv hx W => sub_r hv hx W
  have bT := (BoxN.new w 25 #[.int .i64 t.num, .int .i64 t.den]).alloc (.cells #[.int .i64 0, .int .i64 0] 25)
  have bR := BoxN.new (w.alloc (.cells #[.int .i64 t.num, .int .i64 t.den] 25)) 25 #[.int .i64 0, .int .i64 0]
  rw [World.size_alloc] at bR
  have c1 := h1.below hB0 h1.lt
  have c2 := h2.below hB0 h2.lt
  have hfit : fitO (totO cs t) := sumO_fit
  have hk1 := h1.lt
  have hk2 := h2.lt
  obtain ⟨res, hres⟩ : ∃ res, backO cs r L t = res := ⟨_, rfl⟩
  rw [hres]
  unfold backO at hres
  generalize totO cs t = o at HT hfit hres
  have hcq : cmpQ t L ≤ 0 ↔ t ≤ L := by have := @Ref.cmpQ_pos t L; rw [← Rat.not_lt, ← this]; omega
  generalize cmpQ t L = cq at HC hcq
  generalize t.num = tn at hB0 HT HC H1 bT bR c1 c2 ⊢
  generalize (t.den : Int) = td at hB0 HT HC H1 bT bR c1 c2 ⊢
  generalize r.num = rn at H2 c2
  generalize (r.den : Int) = rd at H2 c2
  generalize L.num = Ln at HC H1 c2
  generalize (L.den : Int) = Ld at HC H1 c2
  replace HC := Lib.hid HC
  replace H2 := Lib.hid H2
  replace H3 := Lib.hid H3
  replace hcq := Lib.hid hcq
  simp only [ofR_num] at H1
  clear hI h1 h2
  have g1 := c1.cell 0
  have g2 := bT.cell 0
  have g3 := bT.cell 1
  rcases o with _ | v
  · simp only [numV, ratV] at HT
    replace HT := Lib.hid HT
    have hend : Hid (RV res (0, 0, 3)) := by unfold Hid; rw [← hres]; rfl
    clear hres H1
    go_enter Tryz.func76, Tryz.ntmps76
    go_wp2_with fail
    (with_reducible refine (HT.out).mono ?_); rintro _ w1 ⟨rfl, hb1⟩
    have hB := hB0.trans (hb1.mono hB0.size)
    have bR1 := (bR.below hb1 bR.lt).alloc (.cells #[.int .i64 0, .int .i64 0] 25)
    have r0 := bR1.cell 0
    have r1 := bR1.cell 1
    have f0 := bR1.frozen 0
    have f1 := bR1.frozen 1
    have kR := bR1.lt
    clear g1 g2 g3 hb1 bR bR1 bT c1 c2
    go_wp2
    refine bodyPost_ret (v := ratV (0, 0, 3)) (by simp [results, Tryz.results76, go_sem, ratV, r0, r1]) rfl ⟨⟨_, rfl, hend.out⟩, ?_⟩
    (have hBs := hB.size; (try simp only [World.size_alloc] at hBs); repeat' (first | (with_reducible exact hB) | (with_reducible exact hBs) | (with_reducible refine Below.drew ?_) | (with_reducible refine below_drewN ?_ _) | (with_reducible refine Below.setCell ?_ ?_ _) | (with_reducible refine Below.alloc ?_ ?_ _) | go_size | omega | (simp; omega)))
  have hv := hfit v rfl
  have hres : Hid (res = if t ≤ L then some v else opO (v - ·) (opO (r * ·) (opO (t - ·) (some L)))) := hres.symm
  simp only [numV, ratV] at HT
  have H3v := fun x hx W => H3.out v x hv hx W
  have hrv : Hid (res = some v → RV res (v.num, (v.den : Int), 0)) := fun h => by rw [h]; rfl
  generalize v.num = vn at HT H3v hrv
  generalize (v.den : Int) = vd at HT H3v hrv
  replace HT := Lib.hid HT
  replace H3v := Lib.hid H3v
  clear H3 hfit
  go_enter Tryz.func76, Tryz.ntmps76
  replace H1 := Lib.hid H1
  go_wp2_with fail
  (with_reducible refine (HT.out).mono ?_); rintro _ w1 ⟨rfl, hb⟩
  have hB := hB0.trans (hb.mono hB0.size)
  have hz1 := hb.size
  simp only [World.size_alloc] at hz1
  have c2 := (c2.below hb c2.lt).alloc (.cells #[.int .i64 vn, .int .i64 vd] 25)
  have bT := (bT.below hb bT.lt).alloc (.cells #[.int .i64 vn, .int .i64 vd] 25)
  have bR := (bR.below hb bR.lt).alloc (.cells #[.int .i64 vn, .int .i64 vd] 25)
  have bV := BoxN.new w1 25 #[.int .i64 vn, .int .i64 vd]
  have hB := hB.alloc hB.size (.cells #[.int .i64 vn, .int .i64 vd] 25)
  have n1 : w.heap.size ≠ w1.heap.size := by omega
  have n2 : w.heap.size + 1 ≠ w1.heap.size := by omega
  have n3 : b2 ≠ w1.heap.size := by omega
  clear g1 g2 g3 hb hB0 c1
  have v0 := bV.cell 0
  have v1 := bV.cell 1
  have v0' := bV.frozen 0
  have v1' := bV.frozen 1
  have s0 := c2.cell 0
  have s1 := c2.cell 1
  have s2 := c2.cell 2
  have s3 := c2.cell 3
  have u0 := bT.cell 0
  have u1 := bT.cell 1
  have r0 := bR.cell 0
  have r1 := bR.cell 1
  have f0 := bR.frozen 0
  have f1 := bR.frozen 1
  have kR := bR.lt
  have kV := bV.lt
  go_wp2_with fail
  (with_reducible refine (HC.out _).mono ?_); rintro _ w2 ⟨rfl, hb⟩
  replace hb := hb.b
  clear v0 v1 v0' v1' s0 s1 s2 s3 u0 u1 r0 r1 f0 f1 kR kV
  have c2 := c2.below hb c2.lt
  have bT := bT.below hb bT.lt
  have bR := bR.below hb bR.lt
  have bV := bV.below hb bV.lt
  have hB := hB.trans (hb.mono hB.size)
  clear hb
  have v0 := bV.cell 0
  have v1 := bV.cell 1
  have v0' := bV.frozen 0
  have v1' := bV.frozen 1
  have s0 := c2.cell 0
  have s1 := c2.cell 1
  have s2 := c2.cell 2
  have s3 := c2.cell 3
  have u0 := bT.cell 0
  have u1 := bT.cell 1
  have r0 := bR.cell 0
  have r1 := bR.cell 1
  have f0 := bR.frozen 0
  have f1 := bR.frozen 1
  have kR := bR.lt
  have kV := bV.lt
  by_cases hq : cq ≤ 0
  · have hend := Lib.hid (hrv.out (by rw [hres.out, if_pos (hcq.out.1 hq)]))
    have hqt : decide (cq ≤ 0) = true := decide_eq_true hq
    clear hres hrv H1
    have r0' := bR.cell 0
    have r1' := bR.cell 1
    go_wp2
    refine bodyPost_ret (v := ratV (vn, vd, 0)) (by simp [results, Tryz.results76, go_sem, ratV, r0', r1']) rfl ⟨⟨_, rfl, hend.out⟩, ?_⟩
    (have hBs := hB.size; (try simp only [World.size_alloc] at hBs); repeat' (first | (with_reducible exact hB) | (with_reducible exact hBs) | (with_reducible refine Below.drew ?_) | (with_reducible refine below_drewN ?_ _) | (with_reducible refine Below.setCell ?_ ?_ _) | (with_reducible refine Below.alloc ?_ ?_ _) | go_size | omega | (simp; omega)))
  have hqt : decide (cq ≤ 0) = false := decide_eq_false hq
  replace hres : Hid (res = opO (v - ·) (opO (r * ·) (opO (t - ·) (some L)))) := by have := hres.out; rwa [if_neg (fun h => hq (hcq.out.2 h))] at this
  clear hrv hcq
  replace H1 := H1.out
  by_cases hf1 : Fit (t - L)
  case neg =>
    rw [if_neg hf1] at H1
    have hend : Hid (RV res (vn, vd, 3)) := by unfold Hid; rw [hres.out, opO_no (f := (t - ·)) hf1]; rfl
    clear hres
    simp only [numV, ratV] at H1
    replace H1 := Lib.hid H1
    clear hf1
    go_wp2_with fail
    (with_reducible refine (H1.out _).mono ?_); rintro _ w3 ⟨rfl, hb⟩
    clear v0 v1 v0' v1' s0 s1 s2 s3 u0 u1 r0 r1 f0 f1 kR kV
    have c2 := c2.below hb c2.lt
    have bT := bT.below hb bT.lt
    have bR := bR.below hb bR.lt
    have bV := bV.below hb bV.lt
    have hB := hB.trans (hb.mono hB.size)
    clear hb
    have c2 := c2.alloc (.cells #[.int .i64 0, .int .i64 0] 25)
    have bT := bT.alloc (.cells #[.int .i64 0, .int .i64 0] 25)
    have bR := bR.alloc (.cells #[.int .i64 0, .int .i64 0] 25)
    have bV := bV.alloc (.cells #[.int .i64 0, .int .i64 0] 25)
    have hB := hB.alloc hB.size (.cells #[.int .i64 0, .int .i64 0] 25)
    have v0 := bV.cell 0
    have v1 := bV.cell 1
    have v0' := bV.frozen 0
    have v1' := bV.frozen 1
    have s0 := c2.cell 0
    have s1 := c2.cell 1
    have s2 := c2.cell 2
    have s3 := c2.cell 3
    have u0 := bT.cell 0
    have u1 := bT.cell 1
    have r0 := bR.cell 0
    have r1 := bR.cell 1
    have f0 := bR.frozen 0
    have f1 := bR.frozen 1
    have kR := bR.lt
    have kV := bV.lt
    have r0' := bR.cell 0
    have r1' := bR.cell 1
    go_wp2
    refine bodyPost_ret (v := ratV (vn, vd, 3)) (by simp [results, Tryz.results76, go_sem, ratV, r0', r1']) rfl ⟨⟨_, rfl, hend.out⟩, ?_⟩
    (have hBs := hB.size; (try simp only [World.size_alloc] at hBs); repeat' (first | (with_reducible exact hB) | (with_reducible exact hBs) | (with_reducible refine Below.drew ?_) | (with_reducible refine below_drewN ?_ _) | (with_reducible refine Below.setCell ?_ ?_ _) | (with_reducible refine Below.alloc ?_ ?_ _) | go_size | omega | (simp; omega)))
  rw [if_pos hf1] at H1
  replace hres := hres.out
  rw [opO_yes (f := (t - ·)) hf1] at hres
  generalize t - L = y at hf1 H1 hres
  replace hres := Lib.hid hres
  have H2y := fun W => H2.out y hf1 W
  simp only [ofR_num] at H2y
  simp only [numV, ratV] at H1
  generalize y.num = yn at H1 H2y
  generalize (y.den : Int) = yd at H1 H2y
  replace H1 := Lib.hid H1
  go_wp2_with fail
  (with_reducible refine (H1.out _).mono ?_); rintro _ w3 ⟨rfl, hb⟩
  clear v0 v1 v0' v1' s0 s1 s2 s3 u0 u1 r0 r1 f0 f1 kR kV
  have c2 := c2.below hb c2.lt
  have bT := bT.below hb bT.lt
  have bR := bR.below hb bR.lt
  have bV := bV.below hb bV.lt
  have hB := hB.trans (hb.mono hB.size)
  clear hb
  have hz3 := hB.size
  have m3 := bV.lt
  have m4 := bR.lt
  have c2 := c2.alloc (.cells #[.int .i64 yn, .int .i64 yd] 25)
  have bT := bT.alloc (.cells #[.int .i64 yn, .int .i64 yd] 25)
  have bR := bR.alloc (.cells #[.int .i64 yn, .int .i64 yd] 25)
  have bV := bV.alloc (.cells #[.int .i64 yn, .int .i64 yd] 25)
  have hB := hB.alloc hB.size (.cells #[.int .i64 yn, .int .i64 yd] 25)
  have bQ := BoxN.new w3 25 #[.int .i64 yn, .int .i64 yd]
  have m0 : w.heap.size ≠ w3.heap.size := by omega
  have m1 : w.heap.size + 1 ≠ w3.heap.size := by omega
  have m2 : b2 ≠ w3.heap.size := by omega
  have m5 : w1.heap.size ≠ w3.heap.size := by omega
  have m6 : w3.heap.size ≠ w1.heap.size := by omega
  clear H1
  have v0 := bV.cell 0
  have v1 := bV.cell 1
  have v0' := bV.frozen 0
  have v1' := bV.frozen 1
  have s0 := c2.cell 0
  have s1 := c2.cell 1
  have s2 := c2.cell 2
  have s3 := c2.cell 3
  have u0 := bT.cell 0
  have u1 := bT.cell 1
  have r0 := bR.cell 0
  have r1 := bR.cell 1
  have f0 := bR.frozen 0
  have f1 := bR.frozen 1
  have kR := bR.lt
  have kV := bV.lt
  have q0 := bQ.cell 0
  have q1 := bQ.cell 1
  have q0' := bQ.frozen 0
  have q1' := bQ.frozen 1
  have kQ := bQ.lt
  by_cases hf2 : Fit (r * y)
  case neg =>
    rw [if_neg hf2] at H2y
    have hend : Hid (RV res (vn, vd, 3)) := by unfold Hid; rw [hres.out, opO_no (f := (r * ·)) hf2]; rfl
    clear hres
    simp only [numV, ratV] at H2y
    replace H2y := Lib.hid H2y
    clear hf2
    go_wp2_with fail
    (with_reducible refine (H2y.out _).mono ?_); rintro _ w4 ⟨rfl, hb⟩
    clear v0 v1 v0' v1' s0 s1 s2 s3 u0 u1 r0 r1 f0 f1 kR kV
    clear q0 q1 q0' q1' kQ
    have c2 := c2.below hb c2.lt
    have bT := bT.below hb bT.lt
    have bR := bR.below hb bR.lt
    have bV := bV.below hb bV.lt
    have bQ := bQ.below hb bQ.lt
    have hB := hB.trans (hb.mono hB.size)
    clear hb
    have v0 := bV.cell 0
    have v1 := bV.cell 1
    have v0' := bV.frozen 0
    have v1' := bV.frozen 1
    have s0 := c2.cell 0
    have s1 := c2.cell 1
    have s2 := c2.cell 2
    have s3 := c2.cell 3
    have u0 := bT.cell 0
    have u1 := bT.cell 1
    have r0 := bR.cell 0
    have r1 := bR.cell 1
    have f0 := bR.frozen 0
    have f1 := bR.frozen 1
    have kR := bR.lt
    have kV := bV.lt
    have q0 := bQ.cell 0
    have q1 := bQ.cell 1
    have q0' := bQ.frozen 0
    have q1' := bQ.frozen 1
    have kQ := bQ.lt
    have c2 := (c2.far (p := ⟨w3.heap.size, 0, none⟩) (by simpa using m2) (.int .i64 0)).far (p := ⟨w3.heap.size, 1, none⟩) (by simpa using m2) (.int .i64 0)
    have bT := (bT.far (p := ⟨w3.heap.size, 0, none⟩) (by simpa using m0) (.int .i64 0)).far (p := ⟨w3.heap.size, 1, none⟩) (by simpa using m0) (.int .i64 0)
    have bR := (bR.far (p := ⟨w3.heap.size, 0, none⟩) (by simpa using m1) (.int .i64 0)).far (p := ⟨w3.heap.size, 1, none⟩) (by simpa using m1) (.int .i64 0)
    have bV := (bV.far (p := ⟨w3.heap.size, 0, none⟩) (by simpa using m5) (.int .i64 0)).far (p := ⟨w3.heap.size, 1, none⟩) (by simpa using m5) (.int .i64 0)
    have bQ := bQ.set2 (.int .i64 0) (.int .i64 0)
    have hB := (hB.setCell (p := ⟨w3.heap.size, 0, none⟩) (by simp; omega) (.int .i64 0)).setCell (p := ⟨w3.heap.size, 1, none⟩) (by simp; omega) (.int .i64 0)
    have r0' := bR.cell 0
    have r1' := bR.cell 1
    go_wp2
    refine bodyPost_ret (v := ratV (vn, vd, 3)) (by simp [results, Tryz.results76, go_sem, ratV, r0', r1']) rfl ⟨⟨_, rfl, hend.out⟩, ?_⟩
    (have hBs := hB.size; (try simp only [World.size_alloc] at hBs); repeat' (first | (with_reducible exact hB) | (with_reducible exact hBs) | (with_reducible refine Below.drew ?_) | (with_reducible refine below_drewN ?_ _) | (with_reducible refine Below.setCell ?_ ?_ _) | (with_reducible refine Below.alloc ?_ ?_ _) | go_size | omega | (simp; omega)))
  rw [if_pos hf2] at H2y
  replace hres := hres.out
  rw [opO_yes (f := (r * ·)) hf2] at hres
  generalize r * y = z at hf2 H2y hres
  replace hres := Lib.hid hres
  have H3z := fun W => H3v.out z hf2 W
  simp only [ofR_num] at H3z
  simp only [numV, ratV] at H2y
  generalize z.num = zn at H2y H3z
  generalize (z.den : Int) = zd at H2y H3z
  replace H2y := Lib.hid H2y
  go_wp2_with fail
  (with_reducible refine (H2y.out _).mono ?_); rintro _ w4 ⟨rfl, hb⟩
  clear v0 v1 v0' v1' s0 s1 s2 s3 u0 u1 r0 r1 f0 f1 kR kV
  clear q0 q1 q0' q1' kQ
  have c2 := c2.below hb c2.lt
  have bT := bT.below hb bT.lt
  have bR := bR.below hb bR.lt
  have bV := bV.below hb bV.lt
  have bQ := bQ.below hb bQ.lt
  have hB := hB.trans (hb.mono hB.size)
  clear hb
  have v0 := bV.cell 0
  have v1 := bV.cell 1
  have v0' := bV.frozen 0
  have v1' := bV.frozen 1
  have s0 := c2.cell 0
  have s1 := c2.cell 1
  have s2 := c2.cell 2
  have s3 := c2.cell 3
  have u0 := bT.cell 0
  have u1 := bT.cell 1
  have r0 := bR.cell 0
  have r1 := bR.cell 1
  have f0 := bR.frozen 0
  have f1 := bR.frozen 1
  have kR := bR.lt
  have kV := bV.lt
  have q0 := bQ.cell 0
  have q1 := bQ.cell 1
  have q0' := bQ.frozen 0
  have q1' := bQ.frozen 1
  have kQ := bQ.lt
  have c2 := (c2.far (p := ⟨w3.heap.size, 0, none⟩) (by simpa using m2) (.int .i64 zn)).far (p := ⟨w3.heap.size, 1, none⟩) (by simpa using m2) (.int .i64 zd)
  have bT := (bT.far (p := ⟨w3.heap.size, 0, none⟩) (by simpa using m0) (.int .i64 zn)).far (p := ⟨w3.heap.size, 1, none⟩) (by simpa using m0) (.int .i64 zd)
  have bR := (bR.far (p := ⟨w3.heap.size, 0, none⟩) (by simpa using m1) (.int .i64 zn)).far (p := ⟨w3.heap.size, 1, none⟩) (by simpa using m1) (.int .i64 zd)
  have bV := (bV.far (p := ⟨w3.heap.size, 0, none⟩) (by simpa using m5) (.int .i64 zn)).far (p := ⟨w3.heap.size, 1, none⟩) (by simpa using m5) (.int .i64 zd)
  have bQ := bQ.set2 (.int .i64 zn) (.int .i64 zd)
  have hB := (hB.setCell (p := ⟨w3.heap.size, 0, none⟩) (by simp; omega) (.int .i64 zn)).setCell (p := ⟨w3.heap.size, 1, none⟩) (by simp; omega) (.int .i64 zd)
  clear H2y
  by_cases hf3 : Fit (v - z)
  case neg =>
    rw [if_neg hf3] at H3z
    have hend : Hid (RV res (0, 0, 3)) := by unfold Hid; rw [hres.out, opO_no (f := (v - ·)) hf3]; rfl
    clear hres
    simp only [numV, ratV] at H3z
    replace H3z := Lib.hid H3z
    clear hf3
    go_wp2_with fail
    (with_reducible refine (H3z.out _).mono ?_); rintro _ w5 ⟨rfl, hb⟩
    clear v0 v1 v0' v1' s0 s1 s2 s3 u0 u1 r0 r1 f0 f1 kR kV
    clear q0 q1 q0' q1' kQ
    have c2 := c2.below hb c2.lt
    have bT := bT.below hb bT.lt
    have bR := bR.below hb bR.lt
    have bV := bV.below hb bV.lt
    have bQ := bQ.below hb bQ.lt
    have hB := hB.trans (hb.mono hB.size)
    clear hb
    have v0 := bV.cell 0
    have v1 := bV.cell 1
    have v0' := bV.frozen 0
    have v1' := bV.frozen 1
    have s0 := c2.cell 0
    have s1 := c2.cell 1
    have s2 := c2.cell 2
    have s3 := c2.cell 3
    have u0 := bT.cell 0
    have u1 := bT.cell 1
    have r0 := bR.cell 0
    have r1 := bR.cell 1
    have f0 := bR.frozen 0
    have f1 := bR.frozen 1
    have kR := bR.lt
    have kV := bV.lt
    have q0 := bQ.cell 0
    have q1 := bQ.cell 1
    have q0' := bQ.frozen 0
    have q1' := bQ.frozen 1
    have kQ := bQ.lt
    have c2 := (c2.far (p := ⟨w1.heap.size, 0, none⟩) (by simpa using n3) (.int .i64 0)).far (p := ⟨w1.heap.size, 1, none⟩) (by simpa using n3) (.int .i64 0)
    have bT := (bT.far (p := ⟨w1.heap.size, 0, none⟩) (by simpa using n1) (.int .i64 0)).far (p := ⟨w1.heap.size, 1, none⟩) (by simpa using n1) (.int .i64 0)
    have bR := (bR.far (p := ⟨w1.heap.size, 0, none⟩) (by simpa using n2) (.int .i64 0)).far (p := ⟨w1.heap.size, 1, none⟩) (by simpa using n2) (.int .i64 0)
    have bQ := (bQ.far (p := ⟨w1.heap.size, 0, none⟩) (by simpa using m6) (.int .i64 0)).far (p := ⟨w1.heap.size, 1, none⟩) (by simpa using m6) (.int .i64 0)
    have bV := bV.set2 (.int .i64 0) (.int .i64 0)
    have hB := (hB.setCell (p := ⟨w1.heap.size, 0, none⟩) (by simp; omega) (.int .i64 0)).setCell (p := ⟨w1.heap.size, 1, none⟩) (by simp; omega) (.int .i64 0)
    have r0' := bR.cell 0
    have r1' := bR.cell 1
    go_wp2
    refine bodyPost_ret (v := ratV (0, 0, 3)) (by simp [results, Tryz.results76, go_sem, ratV, r0', r1']) rfl ⟨⟨_, rfl, hend.out⟩, ?_⟩
    (have hBs := hB.size; (try simp only [World.size_alloc] at hBs); repeat' (first | (with_reducible exact hB) | (with_reducible exact hBs) | (with_reducible refine Below.drew ?_) | (with_reducible refine below_drewN ?_ _) | (with_reducible refine Below.setCell ?_ ?_ _) | (with_reducible refine Below.alloc ?_ ?_ _) | go_size | omega | (simp; omega)))
  rw [if_pos hf3] at H3z
  replace hres := hres.out
  rw [opO_yes (f := (v - ·)) hf3] at hres
  generalize v - z = x at hf3 H3z hres
  have hend : RV res (x.num, (x.den : Int), 0) := by rw [hres]; rfl
  clear hres
  simp only [numV, ratV] at H3z
  generalize x.num = xn at H3z hend
  generalize (x.den : Int) = xd at H3z hend
  replace hend := Lib.hid hend
  replace H3z := Lib.hid H3z
  go_wp2_with fail
  (with_reducible refine (H3z.out _).mono ?_); rintro _ w5 ⟨rfl, hb⟩
  clear v0 v1 v0' v1' s0 s1 s2 s3 u0 u1 r0 r1 f0 f1 kR kV
  clear q0 q1 q0' q1' kQ
  have c2 := c2.below hb c2.lt
  have bT := bT.below hb bT.lt
  have bR := bR.below hb bR.lt
  have bV := bV.below hb bV.lt
  have bQ := bQ.below hb bQ.lt
  have hB := hB.trans (hb.mono hB.size)
  clear hb
  have v0 := bV.cell 0
  have v1 := bV.cell 1
  have v0' := bV.frozen 0
  have v1' := bV.frozen 1
  have s0 := c2.cell 0
  have s1 := c2.cell 1
  have s2 := c2.cell 2
  have s3 := c2.cell 3
  have u0 := bT.cell 0
  have u1 := bT.cell 1
  have r0 := bR.cell 0
  have r1 := bR.cell 1
  have f0 := bR.frozen 0
  have f1 := bR.frozen 1
  have kR := bR.lt
  have kV := bV.lt
  have q0 := bQ.cell 0
  have q1 := bQ.cell 1
  have q0' := bQ.frozen 0
  have q1' := bQ.frozen 1
  have kQ := bQ.lt
  have c2 := (c2.far (p := ⟨w1.heap.size, 0, none⟩) (by simpa using n3) (.int .i64 xn)).far (p := ⟨w1.heap.size, 1, none⟩) (by simpa using n3) (.int .i64 xd)
  have bT := (bT.far (p := ⟨w1.heap.size, 0, none⟩) (by simpa using n1) (.int .i64 xn)).far (p := ⟨w1.heap.size, 1, none⟩) (by simpa using n1) (.int .i64 xd)
  have bR := (bR.far (p := ⟨w1.heap.size, 0, none⟩) (by simpa using n2) (.int .i64 xn)).far (p := ⟨w1.heap.size, 1, none⟩) (by simpa using n2) (.int .i64 xd)
  have bQ := (bQ.far (p := ⟨w1.heap.size, 0, none⟩) (by simpa using m6) (.int .i64 xn)).far (p := ⟨w1.heap.size, 1, none⟩) (by simpa using m6) (.int .i64 xd)
  have bV := bV.set2 (.int .i64 xn) (.int .i64 xd)
  have hB := (hB.setCell (p := ⟨w1.heap.size, 0, none⟩) (by simp; omega) (.int .i64 xn)).setCell (p := ⟨w1.heap.size, 1, none⟩) (by simp; omega) (.int .i64 xd)
  have r0' := bR.cell 0
  have r1' := bR.cell 1
  go_wp2
  refine bodyPost_ret (v := ratV (xn, xd, 0)) (by simp [results, Tryz.results76, go_sem, ratV, r0', r1']) rfl ⟨⟨_, rfl, hend.out⟩, ?_⟩
  (have hBs := hB.size; (try simp only [World.size_alloc] at hBs); repeat' (first | (with_reducible exact hB) | (with_reducible exact hBs) | (with_reducible refine Below.drew ?_) | (with_reducible refine below_drewN ?_ _) | (with_reducible refine Below.setCell ?_ ?_ _) | (with_reducible refine Below.alloc ?_ ?_ _) | go_size | omega | (simp; omega)))
end Go.Proofs.YtbncfknjgldcbaaGreat
