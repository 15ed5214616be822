/- Merged texts: CSrvd, CAbM, CMoM. -/
import Derived.Test.YtcfbccdicgeddaaGreatM24
import Derived.Test.YtcfbccdicgeddaaGreatM18
import Derived.Test.YtcfbccdicgeddaaGreatM9
import Derived.Test.YtcfbccdicgeddaaGreatM25
/- What a server has served, in CalculusAbove. -/
namespace Go.Proofs.YtcfbccdicgeddaaGreat
open Go.RowKit Go.Joins Go.Shelf Go.Sort Num Mx

theorem num_lt {x : Rat} : x.num < 0 ↔ x < 0 := by
  have h := Rat.num_nonneg (q := x)
  constructor
  · intro k; exact Rat.not_le.1 fun k2 => by have := h.2 k2; omega
  · intro k; exact Int.not_le.1 fun k2 => Rat.not_le.2 k (h.1 k2)
set_option maxRecDepth 100000 in
set_option maxHeartbeats 4000000 in
theorem served_any (r L y : Rat) (hr : Fit r) (hL : Fit L) (hy : Fit y) (hz : Fit (y - L)) (hu : Fit (r * pos (y - L))) (rn rd ln ld yn yd un ud : Int) (e1 : r.num = rn) (e2 : (r.den : Int) = rd) (e3 : L.num = ln) (e4 : (L.den : Int) = ld) (e5 : y.num = yn) (e6 : (y.den : Int) = yd) (e7 : (r * pos (y - L)).num = un) (e8 : ((r * pos (y - L)).den : Int) = ud)
    (gs gr : Nat) (w : World) (hs : BoxN w gs 26 #[.int .i64 rn, .int .i64 rd, .int .i64 ln, .int .i64 ld]) (hg : Has w gr rn rd) :
    Calls Tryz.prog 35 #[.agg #[.int .i64 yn, .int .i64 yd], .pointer (some ⟨gs, 0, none⟩), .pointer (some ⟨gr, 0, none⟩)] w fun e w' => e = .returned (.tuple #[.agg #[.int .i64 un, .int .i64 ud], .bool true]) ∧ Below w.heap.size w w' := by
  have HS : Hid (∀ W : World, _) := fun W => sub_yes hy hL hz W
  have HN : Hid (∀ W : World, _) := fun W => num3_any 0 1 W
  have hpf : Fit (pos (y - L)) := by unfold pos; split; exact ⟨by decide, by decide⟩; exact hz
  have HM : Hid (∀ W : World, _) := fun W => mul_yes hr hpf hu W
  have hnum := num_lt (x := y - L)
  have hp0 : y - L < 0 → pos (y - L) = 0 := fun h => if_pos h
  have hp1 : ¬ y - L < 0 → pos (y - L) = y - L := fun h => if_neg h
  have hB0 := ((Below.refl w.heap.size w).alloc (Nat.le_refl _) (.cells #[.int .i64 yn, .int .i64 yd] 24)).alloc (by simp) (.cells #[.int .i64 0, .int .i64 0] 24)
  have bY := (BoxN.new w 24 #[.int .i64 yn, .int .i64 yd]).alloc (.cells #[.int .i64 0, .int .i64 0] 24)
  have bR := BoxN.new (w.alloc (.cells #[.int .i64 yn, .int .i64 yd] 24)) 24 #[.int .i64 0, .int .i64 0]
  rw [World.size_alloc] at bR
  have bS := (hs.alloc (.cells #[.int .i64 yn, .int .i64 yd] 24)).alloc (.cells #[.int .i64 0, .int .i64 0] 24)
  have bG := (hg.alloc (.cells #[.int .i64 yn, .int .i64 yd] 24)).alloc (.cells #[.int .i64 0, .int .i64 0] 24)
  have y0 := bY.cell 0
  have y1 := bY.cell 1
  have s2 := bS.cell 2
  have s3 := bS.cell 3
  subst e1 e2 e3 e4 e5 e6 e7 e8
  have ez : (y - L).num < 0 ∨ ¬ (y - L).num < 0 := by omega
  by_cases hneg : y - L < 0
  · rw [hp0 hneg] at HM ⊢
    have hn1 := hnum.2 hneg
    clear hp0 hp1 hneg hnum hpf hu hz hs hg ez
    rw [show (0 : Rat).num = 0 from rfl, show ((0 : Rat).den : Int) = 1 from rfl] at HM
    generalize (r * 0).num = un at *
    generalize ((r * 0).den : Int) = ud at *
    generalize (y - L).num = zn at *
    generalize ((y - L).den : Int) = zd at *
    generalize r.num = rn at *
    generalize (r.den : Int) = rd at *
    generalize L.num = ln at *
    generalize (L.den : Int) = ld at *
    generalize y.num = yn at *
    generalize (y.den : Int) = yd at *
    go_enter Tryz.func35, Tryz.ntmps35
    go_wp2_with fail
    (with_reducible refine (HS.out _).mono ?_); rintro e w1 ⟨rfl, hb1⟩
    have hB1 := hB0.trans (hb1.mono hB0.size)
    have bR1 := bR.below hb1 bR.lt
    have bG1 := bG.keep hb1
    have b6 := BoxN.new w1 24 #[.int .i64 zn, .int .i64 zd]
    have hB2 := hB1.alloc hB1.size (.cells #[.int .i64 zn, .int .i64 zd] 24)
    have bR2 := bR1.alloc (.cells #[.int .i64 zn, .int .i64 zd] 24)
    have bG2 := bG1.alloc (.cells #[.int .i64 zn, .int .i64 zd] 24)
    clear y0 y1 s2 s3 bY bS bR bG hB0 hb1 HS
    have q0 := b6.cell 0
    have q1 := b6.cell 1
    go_wp2_with fail
    (with_reducible refine (HN.out _).mono ?_); rintro e w2 ⟨rfl, hb2⟩
    have hB3 := hB2.trans (hb2.mono hB2.size)
    have hBz := ((Below.refl w1.heap.size w1).alloc (Nat.le_refl _) (.cells #[.int .i64 zn, .int .i64 zd] 24)).trans (hb2.mono (by simp))
    have b63 := b6.below hb2 b6.lt
    have bG3 := bG2.keep hb2
    have hX := (hBz.setCell (p := ⟨w1.heap.size, 0, none⟩) (Nat.le_refl _) (.int .i64 0)).setCell (p := ⟨w1.heap.size, 1, none⟩) (Nat.le_refl _) (.int .i64 1)
    have rS := b63.set2 (.int .i64 0) (.int .i64 1)
    have hBx := (hB3.setCell (p := ⟨w1.heap.size, 0, none⟩) hB1.size (.int .i64 0)).setCell (p := ⟨w1.heap.size, 1, none⟩) hB1.size (.int .i64 1)
    have bRx := bR1.below hX bR1.lt
    have c0 := b63.cell 0
    have c1 := b63.cell 1
    have g0 := b63.frozen 0
    have g1 := b63.frozen 1
    have kS := b63.lt
    have k0 := bG3.c0
    have k1 := bG3.c1
    have nG := Nat.ne_of_lt bG1.lt
    have nG' := Nat.ne_of_gt bG1.lt
    clear q0 q1 hb2 HN
    go_wp2_with fail
    (with_reducible refine (HM.out _).mono ?_); rintro e w3 ⟨rfl, hb3⟩
    have hB5 := hBx.trans (hb3.mono hBx.size)
    have bR5 := bRx.below hb3 bRx.lt
    clear c0 c1 g0 g1 kS k0 k1 nG nG' hb3 rS hX hBz b63 bG3 bR2 bG2 b6 bR1 bG1 bRx hBx hB3 hB2 hB1
    clear HM
    have r0 := bR5.cell 0
    have r1 := bR5.cell 1
    have f0 := bR5.frozen 0
    have f1 := bR5.frozen 1
    have kR := bR5.lt
    have hB6 := Lib.hid hB5
    clear hB5
    go_wp2_with fail
    have rR := (bR5.set2 (.int .i64 un) (.int .i64 ud)).alloc (.cells #[.int .i64 un, .int .i64 ud] 24)
    have p0 := rR.cell 0
    have p1 := rR.cell 1
    refine bodyPost_ret (v := .tuple #[.agg #[.int .i64 un, .int .i64 ud], .bool true]) (by simp [results, Tryz.results35, go_sem, p0, p1]) rfl ⟨rfl, ?_⟩
    have hB := hB6.out
    (have hBs := hB.size; (try simp only [World.size_alloc] at hBs); repeat' (first | (with_reducible exact hB) | (with_reducible exact hBs) | (with_reducible refine Below.drew ?_) | (with_reducible refine below_drewN ?_ _) | (with_reducible refine Below.setCell ?_ ?_ _) | (with_reducible refine Below.alloc ?_ ?_ _) | go_size | omega | (simp; omega)))
  · rw [hp1 hneg] at HM ⊢
    have hn1 : ¬ (y - L).num < 0 := fun h => hneg (hnum.1 h)
    clear hp0 hp1 hneg hnum hpf hu hz hs hg ez HN
    generalize (r * (y - L)).num = un at *
    generalize ((r * (y - L)).den : Int) = ud at *
    generalize (y - L).num = zn at *
    generalize ((y - L).den : Int) = zd at *
    generalize r.num = rn at *
    generalize (r.den : Int) = rd at *
    generalize L.num = ln at *
    generalize (L.den : Int) = ld at *
    generalize y.num = yn at *
    generalize (y.den : Int) = yd at *
    go_enter Tryz.func35, Tryz.ntmps35
    go_wp2_with fail
    (with_reducible refine (HS.out _).mono ?_); rintro e w1 ⟨rfl, hb1⟩
    have hB1 := hB0.trans (hb1.mono hB0.size)
    have bR1 := bR.below hb1 bR.lt
    have bG1 := bG.keep hb1
    have b6 := BoxN.new w1 24 #[.int .i64 zn, .int .i64 zd]
    have hB2 := hB1.alloc hB1.size (.cells #[.int .i64 zn, .int .i64 zd] 24)
    have bR2 := bR1.alloc (.cells #[.int .i64 zn, .int .i64 zd] 24)
    have bG2 := bG1.alloc (.cells #[.int .i64 zn, .int .i64 zd] 24)
    clear y0 y1 s2 s3 bY bS bR bG hB0 hb1 HS
    have q0 := b6.cell 0
    have q1 := b6.cell 1
    have k0 := bG2.c0
    have k1 := bG2.c1
    go_wp2_with fail
    (with_reducible refine (HM.out _).mono ?_); rintro e w3 ⟨rfl, hb3⟩
    have hB5 := hB2.trans (hb3.mono hB2.size)
    have bR5 := bR2.below hb3 bR2.lt
    clear q0 q1 k0 k1 hb3 bR2 bG2 b6 bR1 bG1 hB2 hB1
    clear HM
    have r0 := bR5.cell 0
    have r1 := bR5.cell 1
    have f0 := bR5.frozen 0
    have f1 := bR5.frozen 1
    have kR := bR5.lt
    have hB6 := Lib.hid hB5
    clear hB5
    go_wp2_with fail
    have rR := (bR5.set2 (.int .i64 un) (.int .i64 ud)).alloc (.cells #[.int .i64 un, .int .i64 ud] 24)
    have p0 := rR.cell 0
    have p1 := rR.cell 1
    refine bodyPost_ret (v := .tuple #[.agg #[.int .i64 un, .int .i64 ud], .bool true]) (by simp [results, Tryz.results35, go_sem, p0, p1]) rfl ⟨rfl, ?_⟩
    have hB := hB6.out
    (have hBs := hB.size; (try simp only [World.size_alloc] at hBs); repeat' (first | (with_reducible exact hB) | (with_reducible exact hBs) | (with_reducible refine Below.drew ?_) | (with_reducible refine below_drewN ?_ _) | (with_reducible refine Below.setCell ?_ ?_ _) | (with_reducible refine Below.alloc ?_ ?_ _) | go_size | omega | (simp; omega)))
end Go.Proofs.YtcfbccdicgeddaaGreat
/- CalculusAbove's numbers. -/
namespace Go.Proofs.YtcfbccdicgeddaaGreat.Mx
open Go.RowKit Go.Joins Go.Shelf Go.Sort Num BrkLaw

theorem tot_two (a b : List Buck) (s : Rat) : tot [a, b] s = minV a s + minV b s := by
  show minV a s + (minV b s + 0) = _
  grind
theorem pos_ge (x : Rat) : x ≤ pos x := by unfold pos; split <;> grind
theorem above_le {a b : List Buck} {p L m mb : Rat} (hp : 0 < p) (hD : Dl [a, b] p L m) (hB : Bl [a, b] p L mb) (T : Int) (hT : 0 ≤ T) : minV a T + minV b T ≤ p * pos (T + m - L) ∧ minV a T + minV b T ≤ p * pos (T - L) + mb := by
  have h1 := hD.up T hT
  have h2 := hB.up T hT
  rw [tot_two] at h1 h2
  generalize minV a T + minV b T = v at *
  refine ⟨?_, by grind⟩
  have h3 := Rat.mul_le_mul_of_nonneg_left (pos_ge (T + m - L)) (Rat.le_of_lt hp)
  have h4 := Rat.mul_le_mul_of_nonneg_left h1 (Rat.le_of_lt hp)
  have h5 : v / p * p = v := Rat.div_mul_cancel (fun e => by rw [e] at hp; exact Rat.lt_irrefl hp)
  grind
theorem pos_gd {D K : Nat} {x : Rat} (h : Gd D K x) : Gd D K (pos x) := by
  unfold pos
  split
  · exact ⟨0, by omega, by simp⟩
  · exact h
theorem cmp_gt {r s : Rat} : 0 < cmpQ r s ↔ s < r := by
  have h := cmpQ_le (r := r) (s := s)
  constructor
  · intro k; exact Rat.not_le.1 fun k2 => by have := h.2 k2; omega
  · intro k; exact Int.not_le.1 fun k2 => Rat.not_le.2 k (h.1 k2)
end Go.Proofs.YtcfbccdicgeddaaGreat.Mx
namespace Go.Proofs.YtcfbccdicgeddaaGreat.AbLaw
open Go.RowKit Go.Joins Go.Shelf Go.Sort Num Mx
theorem isL_two {A B : Option Addr} {ca cb : Nat} {c d : List Buck} {W : World} {g : Nat} (hg : W.heap.size = g) (hA : isC A ca c W) (hB : isC B cb d W) (hc : 1 ≤ c.length ∧ c.length ≤ 32) (hd : 1 ≤ d.length ∧ d.length ≤ 32) (t : TypeId) (n m : Nat) (hn : c.length = n) (hm : d.length = m) :
    isL (some ⟨g, 0, none⟩) [c, d] (W.alloc (.cells #[.slice A n ca, .slice B m cb] t)) := by
  subst hg
  exact isL.two hA hB hc hd t n m hn hm
theorem divInt_one (n : Int) : Rat.divInt n 1 = (n : Rat) := by rw [Rat.divInt_eq_div]; grind
theorem make_one (n : Int) (h1 : -1073741824 ≤ n ∧ n ≤ 1073741824) (W : World) :
    Calls Tryz.prog 26 #[.int .i64 n, .int .i64 1] W fun e w' => e = .returned (.tuple #[.agg #[.int .i64 n, .int .i64 1], .int .i64 0]) ∧ Below W.heap.size W w' := by
  have h := make_w n 1 h1 (by decide) W
  rw [divInt_one] at h
  exact h
end Go.Proofs.YtcfbccdicgeddaaGreat.AbLaw
/- CalculusMore's numbers: more flows, a higher latency, a smaller rate never give a smaller bound. -/
namespace Go.Proofs.YtcfbccdicgeddaaGreat.Mx
open Go.RowKit Go.Joins Go.Shelf Go.Sort Num BrkLaw

/-- What CalculusMore asks of two answers. -/
def Good (x y : Int × Int × Int) : Prop := (x.2.2 = 6 ∧ y.2.2 = 6) ∨ (x.2.2 = 0 ∧ y.2.2 = 6) ∨ ∃ m k : Rat, (Fit m ∧ Fit k ∧ m ≤ k) ∧ x = (m.num, (m.den : Int), 0) ∧ y = (k.num, (k.den : Int), 0)
theorem pos_mono {x y : Rat} (h : x ≤ y) : pos x ≤ pos y := by unfold pos; split <;> split <;> grind
theorem pos_nn (x : Rat) : 0 ≤ pos x := by unfold pos; split <;> grind
theorem div_anti {v r s : Rat} (hv : 0 ≤ v) (hs : 0 < s) (h : s ≤ r) : v / r ≤ v / s := by
  have hr : 0 < r := by grind
  refine div_le hr ?_
  have h1 : v / s * s = v := Rat.div_mul_cancel (fun e => by rw [e] at hs; exact Rat.lt_irrefl hs)
  have h2 := Rat.mul_le_mul_of_nonneg_left h (div_nn hs hv)
  grind
theorem tot_nn {cs : List (List Buck)} (h : ∀ c ∈ cs, c ≠ []) {t : Rat} (ht : 0 ≤ t) : 0 ≤ tot cs t := by
  induction cs with
  | nil => exact Rat.le_refl
  | cons c cs ih =>
    have h1 := minV_nonneg (h c (by simp)) ht
    have h2 := ih fun d hd => h d (List.mem_cons_of_mem _ hd)
    show 0 ≤ minV c t + tot cs t
    grind
section
variable {cs cs' : List (List Buck)} {r r' L L' : Rat} (hne : ∀ c ∈ cs, c ≠ []) (ht : ∀ z : Int, 0 ≤ z → tot cs z ≤ tot cs' z) (hr : 0 < r') (hrr : r' ≤ r) (hL : L ≤ L')
include hne ht hr hrr hL
theorem dl_mono {m k : Rat} (h1 : Dl cs r L m) (h2 : Dl cs' r' L' k) : m ≤ k := by
  rcases h1.at' with h | ⟨z, hz, h⟩
  · rw [h]; exact h2.nn
  · have h3 := h2.up z hz.1
    have h4 := ht z hz.1
    have h5 := tot_nn hne (t := (z : Rat)) (Rat.intCast_le_intCast.2 hz.1)
    have h6 := div_anti h5 hr hrr
    have h7 := div_mono hr h4
    grind
omit hne in
theorem bl_mono {m k : Rat} (h1 : Bl cs r L m) (h2 : Bl cs' r' L' k) : m ≤ k := by
  rcases h1.at' with h | ⟨z, hz, h⟩
  · rw [h]; exact h2.nn
  · have h3 := h2.up z hz
    have h4 := ht z hz
    have h5 : pos (z - L') ≤ pos (z - L) := pos_mono (by grind)
    have h6 := Rat.mul_le_mul_of_nonneg_left h5 (Rat.le_of_lt hr)
    have h7 := Rat.mul_le_mul_of_nonneg_right hrr (pos_nn (z - L))
    grind
end
theorem rate_less {P E : Int} (hP : 1 ≤ P) (hE : 8 ≤ E) : Rat.divInt P E ≤ Rat.divInt P 8 := by
  rw [Rat.divInt_eq_div, Rat.divInt_eq_div]
  have h1 : (0 : Rat) ≤ P := Rat.intCast_le_intCast.2 (show (0 : Int) ≤ P by omega)
  have h2 : ((8 : Int) : Rat) ≤ E := Rat.intCast_le_intCast.2 hE
  exact div_anti h1 (by decide) h2
section
variable {cs cs' : List (List Buck)} (h : SmL cs) (hl : cs.length ≤ 2) (h' : SmL cs') (hl' : cs'.length ≤ 2) {P E E' : Int} (hP : 1 ≤ P ∧ P ≤ 160) (hE : 8 ≤ E ∧ E ≤ 15) (hE' : 8 ≤ E' ∧ E' ≤ 15) {L L' : Int} (hL : 0 ≤ L ∧ L ≤ 510) (hL' : 0 ≤ L' ∧ L' ≤ 510)
  (ht : ∀ z : Int, 0 ≤ z → tot cs z ≤ tot cs' z) (hsum : sumf rateL cs ≤ sumf rateL cs') (hrr : Rat.divInt P E' ≤ Rat.divInt P E) (hLL : L ≤ L')
include h hl h' hl' hP hE hE' hL hL' ht hsum hrr hLL
theorem good_delay : Good (delayV cs (Rat.divInt P E) (L : Rat)) (delayV cs' (Rat.divInt P E') (L' : Rat)) := by
  have p1 := (rate_fit hP hE).2
  have p2 := (rate_fit hP hE').2
  have d1 := delay_sm h hl p1 (D := 8 * P.toNat) (K := 984000) (by omega) (by omega) (by decide) (fun y hy => gd_dive hP hE hy) hL
  have d2 := delay_sm h' hl' p2 (D := 8 * P.toNat) (K := 984000) (by omega) (by omega) (by decide) (fun y hy => gd_dive hP hE' hy) hL'
  by_cases c1 : Rat.divInt P E < sumf rateL cs
  · rw [if_pos c1] at d1
    rw [if_pos (show Rat.divInt P E' < sumf rateL cs' by grind)] at d2
    rw [d1, d2]
    exact .inl ⟨rfl, rfl⟩
  · rw [if_neg c1] at d1
    obtain ⟨m, e1, hm, gm⟩ := d1
    rw [e1]
    by_cases c2 : Rat.divInt P E' < sumf rateL cs'
    · rw [if_pos c2] at d2
      rw [d2]
      exact .inr (.inl ⟨rfl, rfl⟩)
    · rw [if_neg c2] at d2
      obtain ⟨k, e2, hk, gk⟩ := d2
      rw [e2]
      exact .inr (.inr ⟨m, k, ⟨gd_fit gm (by omega) (by omega) (by omega), gd_fit gk (by omega) (by omega) (by omega), dl_mono (fun c hc => (h c hc).1) ht p2 hrr (Rat.intCast_le_intCast.2 hLL) hm hk⟩, rfl, rfl⟩)
theorem good_back (hf : Fit (L : Rat)) (hf' : Fit (L' : Rat)) : Good (backV cs (Rat.divInt P E) (L : Rat) hf) (backV cs' (Rat.divInt P E') (L' : Rat) hf') := by
  have p2 := (rate_fit hP hE').2
  have d1 := back_sm h hl (E := E.toNat) (by omega) (by omega) (gd_rate hP hE) hf hL
  have d2 := back_sm h' hl' (E := E'.toNat) (by omega) (by omega) (gd_rate hP hE') hf' hL'
  by_cases c1 : Rat.divInt P E < sumf rateL cs
  · rw [if_pos c1] at d1
    rw [if_pos (show Rat.divInt P E' < sumf rateL cs' by grind)] at d2
    rw [d1, d2]
    exact .inl ⟨rfl, rfl⟩
  · rw [if_neg c1] at d1
    obtain ⟨m, e1, hm, gm⟩ := d1
    rw [e1]
    by_cases c2 : Rat.divInt P E' < sumf rateL cs'
    · rw [if_pos c2] at d2
      rw [d2]
      exact .inr (.inl ⟨rfl, rfl⟩)
    · rw [if_neg c2] at d2
      obtain ⟨k, e2, hk, gk⟩ := d2
      rw [e2]
      exact .inr (.inr ⟨m, k, ⟨gd_fit gm (by omega) (by omega) (by decide), gd_fit gk (by omega) (by omega) (by decide), bl_mono ht p2 hrr (Rat.intCast_le_intCast.2 hLL) hm hk⟩, rfl, rfl⟩)
end
theorem sml_one {a : List Buck} (hca : a ≠ []) (hsa : ∀ x ∈ a, Sm x) : SmL [a] := fun c hc => by rw [List.mem_singleton.1 hc]; exact ⟨hca, hsa⟩
theorem sml_two {a b : List Buck} (hca : a ≠ []) (hcb : b ≠ []) (hsa : ∀ x ∈ a, Sm x) (hsb : ∀ x ∈ b, Sm x) : SmL [a, b] := fun c hc => by
  simp only [List.mem_cons, List.not_mem_nil, or_false] at hc
  rcases hc with rfl | rfl
  · exact ⟨hca, hsa⟩
  · exact ⟨hcb, hsb⟩
theorem tot_more {a b : List Buck} (hcb : b ≠ []) (z : Int) (hz : 0 ≤ z) : tot [a] z ≤ tot [a, b] z := by
  have := minV_nonneg hcb (t := (z : Rat)) (Rat.intCast_le_intCast.2 hz)
  rw [tot_two]
  show minV a z + 0 ≤ _
  grind
theorem sum_more {a b : List Buck} (hcb : b ≠ []) : sumf rateL [a] ≤ sumf rateL [a, b] := by
  obtain ⟨x, hx, e⟩ := rateL_at hcb
  have := x.pr
  show rateL a + 0 ≤ rateL a + (rateL b + 0)
  grind
end Go.Proofs.YtcfbccdicgeddaaGreat.Mx
