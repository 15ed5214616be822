/- Merged texts: CChain, CChain2. -/
import Derived.Test.YtbncfknjgldcbaaGreatM8
import Derived.Test.YtbncfknjgldcbaaGreatM9
/- slices.MinFunc at two numbers, and calculus.Chain. -/
namespace Go.Proofs.YtbncfknjgldcbaaGreat
open Go.RowKit Go.Joins Go.Shelf Go.Sort Num

/-- The smaller one of two, the first one of equals. -/
def minq (x y : Rat) : Rat := if y < x then y else x
theorem minq_fit {x y : Rat} (hx : Fit x) (hy : Fit y) : Fit (minq x y) := by unfold minq; split <;> assumption

set_option maxRecDepth 100000 in
set_option maxHeartbeats 4000000 in
theorem min2_any (x y : Rat) (hx : Fit x) (hy : Fit y) (g : Nat) (w : World) (hG : BoxN w g 25 #[.int .i64 x.num, .int .i64 x.den, .int .i64 y.num, .int .i64 y.den]) :
    Calls Tryz.prog 80 #[.slice (some ⟨g, 0, none⟩) 2 2, .func (.func 44) #[] #[]] w fun e w' => e = .returned (.agg #[.int .i64 (minq x y).num, .int .i64 (minq x y).den]) ∧ Below w.heap.size w w' := by
  have HX : Hid (∀ W : World, Calls Tryz.prog 44 #[.agg #[.int .i64 y.num, .int .i64 y.den], .agg #[.int .i64 x.num, .int .i64 x.den]] W fun e w' => e = .returned (.int .i64 (cmpQ y x)) ∧ Below W.heap.size W w') := fun W => (cmp_r hy hx W).mono fun _ _ ⟨h, k⟩ => ⟨h, k.b⟩
  have hcq : Hid (cmpQ y x < 0 ↔ y < x) := cmpQ_neg
  have hg := hG.lt
  have y0 : w.cell? ⟨g, 0, none⟩ = some (.int .i64 x.num) := hG.cell 0
  have y1 : w.cell? ⟨g, 1, none⟩ = some (.int .i64 x.den) := hG.cell 1
  have hGb := Lib.hid hG
  clear hG
  go_enter Tryz.func80, Tryz.ntmps80
  go_wp2_with fail
  have bR := BoxN.new w 25 #[.int .i64 0, .int .i64 0]
  have hB1 : Below w.heap.size w (w.alloc (.cells #[.int .i64 0, .int .i64 0] 25)) := (Below.refl _ w).alloc (Nat.le_refl _) _
  have hz1 : (w.alloc (.cells #[.int .i64 0, .int .i64 0] 25)).heap.size = w.heap.size + 1 := by simp
  have bM := BoxN.new (w.alloc (.cells #[.int .i64 0, .int .i64 0] 25)) 25 #[.int .i64 x.num, .int .i64 x.den]
  rw [hz1] at bM
  go_loopw [6] (fun i wr => ∃ (k : Nat) (m : Rat), 1 ≤ k ∧ k ≤ 2 ∧ i = .int .i64 k ∧ Hid (m = if k = 1 then x else minq x y) ∧ BoxN wr (w.heap.size + 1) 25 #[.int .i64 m.num, .int .i64 m.den] ∧ Below (w.heap.size + 1) (w.alloc (.cells #[.int .i64 0, .int .i64 0] 25)) wr)
    (fun i _ => 2 - (intOf i).toNat)
  case atStart => exact ⟨1, x, by omega, by omega, rfl, by simp [Hid], bM, (Below.refl _ _).alloc (by simp) _⟩
  case round =>
    obtain ⟨k, m, hk1, hk, rfl, hm, bW, hBr⟩ := hrel
    by_cases hlt : k < 2
    · obtain rfl : k = 1 := by omega
      obtain rfl : m = x := by have := hm.out; simpa using this
      have hGr := (hGb.out.below hB1 hg).below hBr (by omega)
      have c0 := hGr.cell 2
      have c1 := hGr.cell 3
      obtain ⟨cq, hcqe⟩ : ∃ cq, cmpQ y m = cq := ⟨_, rfl⟩
      rw [hcqe] at HX hcq
      have hbw := hGr.lt
      have bWl := bW.lt
      have p0 := Gr.cell (bW.cell 0) bW.lt
      have p1 := Gr.cell (bW.cell 1) bW.lt
      have q0 := Gr.cell c0 hbw
      have q1 := Gr.cell c1 hbw
      haveI : Nonempty (Wd (Gr wr)) := ⟨⟨wr, Below.refl _ _⟩⟩
      clear hcqe hlt
      go_wp2_with fail
      refine wp_region_cls (Gr wr) (by kernel_rfl) (by kernel_rfl) (Gr.start wr) ?_
      repeat (go_big_quiet_step ((go_at_call 44; exact Calls.cls Gr.close (HX.out _))))
      refine wpQuiet_nil ?_
      intro _ hw'
      obtain ⟨s0, rfl⟩ := hw'
      have hG : Below wr.heap.size wr s0.val := s0.ok
      generalize s0.val = v1 at hG ⊢
      have bW1 := bW.below hG bW.lt
      have hB1' : Below (w.heap.size + 1) (w.alloc (.cells #[.int .i64 0, .int .i64 0] 25)) v1 := hBr.trans (hG.mono (by omega))
      have e0 : v1.cell? ⟨g, 2, none⟩ = some (.int .i64 y.num) := (hG.cell (p := ⟨g, 2, none⟩) hbw).trans c0
      have e1 : v1.cell? ⟨g, 3, none⟩ = some (.int .i64 y.den) := (hG.cell (p := ⟨g, 3, none⟩) hbw).trans c1
      have n0 : v1.cell? ⟨w.heap.size + 1, 0, none⟩ = some (.int .i64 m.num) := bW1.cell 0
      have n1 : v1.cell? ⟨w.heap.size + 1, 1, none⟩ = some (.int .i64 m.den) := bW1.cell 1
      have f0 := bW1.frozen 0
      have f1 := bW1.frozen 1
      have bWl1 := bW1.lt
      clear s0 p0 p1 q0 q1 c0 c1
      by_cases hq : cq < 0
      · have hlq : Hid (y = minq m y) := by unfold Hid minq; rw [if_pos (hcq.out.1 hq)]
        go_wp2
        go_roundw
        case rel => exact ⟨2, y, by omega, by omega, by go_num, by simpa [Hid] using hlq.out, bW1.set2 _ _, (hB1'.setCell (p := ⟨w.heap.size + 1, 0, none⟩) (Nat.le_refl _) _).setCell (p := ⟨w.heap.size + 1, 1, none⟩) (Nat.le_refl _) _⟩
        case measure => simp [intOf]
      · have hlq : Hid (m = minq m y) := by unfold Hid minq; rw [if_neg (fun h => hq (hcq.out.2 h))]
        go_wp2
        go_roundw
        case rel => exact ⟨2, m, by omega, by omega, by go_num, by simpa [Hid] using hlq.out, bW1, hB1'⟩
        case measure => simp [intOf]
    · obtain rfl : k = 2 := by omega
      obtain rfl : m = minq x y := by have := hm.out; simpa using this
      have bR1 := bR.below hBr (by omega)
      have hB := hB1.trans (hBr.mono (by omega))
      obtain ⟨mn, hmn⟩ : ∃ mn, (minq x y).num = mn := ⟨_, rfl⟩
      obtain ⟨md, hmd⟩ : ∃ md : Int, ((minq x y).den : Int) = md := ⟨_, rfl⟩
      rw [hmn, hmd] at bW
      have Hmn := Lib.hid hmn
      have Hmd := Lib.hid hmd
      clear hmn hmd
      have n0 : wr.cell? ⟨w.heap.size + 1, 0, none⟩ = some (.int .i64 mn) := bW.cell 0
      have n1 : wr.cell? ⟨w.heap.size + 1, 1, none⟩ = some (.int .i64 md) := bW.cell 1
      have r0 : wr.cell? ⟨w.heap.size, 0, none⟩ = some (.int .i64 0) := bR1.cell 0
      have r1 : wr.cell? ⟨w.heap.size, 1, none⟩ = some (.int .i64 0) := bR1.cell 1
      have f0 := bR1.frozen 0
      have f1 := bR1.frozen 1
      have kR := bR1.lt
      go_wp2
      refine bodyPost_ret (v := .agg #[.int .i64 mn, .int .i64 md]) (by simp [results, Tryz.results80, go_sem, r0, r1]) rfl ⟨by rw [Hmn.out, Hmd.out], ?_⟩
      (have hBs := hB.size; (try simp only [World.size_alloc] at hBs); repeat' (first | (with_reducible exact hB) | (with_reducible exact hBs) | (with_reducible refine Below.drew ?_) | (with_reducible refine below_drewN ?_ _) | (with_reducible refine Below.setCell ?_ ?_ _) | (with_reducible refine Below.alloc ?_ ?_ _) | go_size | omega | (simp; omega)))

def srvV (a b c d e : Int) : Value := .tuple #[.agg #[.int .i64 a, .int .i64 b, .int .i64 c, .int .i64 d], .int .i64 e]

set_option maxRecDepth 100000 in
set_option maxHeartbeats 4000000 in
theorem chain_bad (an ad bn bd cn cd dn dd : Int) (h1 : I64 an) (h2 : I64 ad) (h3 : I64 bn) (h4 : I64 bd) (h5 : I64 cn) (h6 : I64 cd) (h7 : I64 dn) (h8 : I64 dd) (w : World) (hbad : (srvB an ad bn bd && srvB cn cd dn dd) = false) :
    Calls Tryz.prog 30 #[.agg #[.int .i64 an, .int .i64 ad, .int .i64 bn, .int .i64 bd], .agg #[.int .i64 cn, .int .i64 cd, .int .i64 dn, .int .i64 dd]] w fun e w' => e = .returned (srvV 0 0 0 0 2) ∧ Below w.heap.size w w' := by
  have hB0 := (((Below.refl w.heap.size w).alloc (Nat.le_refl _) (.cells #[.int .i64 an, .int .i64 ad, .int .i64 bn, .int .i64 bd] 52)).alloc (by simp) (.cells #[.int .i64 cn, .int .i64 cd, .int .i64 dn, .int .i64 dd] 52)).alloc (by simp; omega) (.cells #[.int .i64 0, .int .i64 0, .int .i64 0, .int .i64 0] 52)
  have bA := ((BoxN.new w 52 #[.int .i64 an, .int .i64 ad, .int .i64 bn, .int .i64 bd]).alloc (.cells #[.int .i64 cn, .int .i64 cd, .int .i64 dn, .int .i64 dd] 52)).alloc (.cells #[.int .i64 0, .int .i64 0, .int .i64 0, .int .i64 0] 52)
  have bC := (BoxN.new (w.alloc (.cells #[.int .i64 an, .int .i64 ad, .int .i64 bn, .int .i64 bd] 52)) 52 #[.int .i64 cn, .int .i64 cd, .int .i64 dn, .int .i64 dd]).alloc (.cells #[.int .i64 0, .int .i64 0, .int .i64 0, .int .i64 0] 52)
  rw [World.size_alloc] at bC
  have bR := BoxN.new ((w.alloc (.cells #[.int .i64 an, .int .i64 ad, .int .i64 bn, .int .i64 bd] 52)).alloc (.cells #[.int .i64 cn, .int .i64 cd, .int .i64 dn, .int .i64 dd] 52)) 52 #[.int .i64 0, .int .i64 0, .int .i64 0, .int .i64 0]
  rw [World.size_alloc, World.size_alloc] at bR
  have HA := Lib.hid (fun W => server_any an ad bn bd h1 h2 h3 h4 W)
  have HC := Lib.hid (fun W => server_any cn cd dn dd h5 h6 h7 h8 W)
  generalize srvB an ad bn bd = x at HA hbad
  generalize srvB cn cd dn dd = y at HC hbad
  have a0 := bA.cell 0
  have a1 := bA.cell 1
  have a2 := bA.cell 2
  have a3 := bA.cell 3
  go_enter Tryz.func30, Tryz.ntmps30
  go_wp2_with fail
  (with_reducible refine (HA.out _).mono ?_); rintro _ w1 ⟨rfl, hb1⟩
  have bR1 := bR.below hb1 bR.lt
  have bC1 := bC.below hb1 bC.lt
  have hB1 := hB0.trans (hb1.mono hB0.size)
  clear a0 a1 a2 a3 hb1 hB0 bA bR bC
  cases x
  · have r0 := bR1.cell 0
    have r1 := bR1.cell 1
    have r2 := bR1.cell 2
    have r3 := bR1.cell 3
    have f0 := bR1.frozen 0
    have f1 := bR1.frozen 1
    have f2 := bR1.frozen 2
    have f3 := bR1.frozen 3
    have kR := bR1.lt
    have hB := hB1
    go_wp2
    refine bodyPost_ret (v := srvV 0 0 0 0 2) (by simp [results, Tryz.results30, go_sem, srvV, r0, r1, r2, r3]) rfl ⟨rfl, ?_⟩
    (have hBs := hB.size; (try simp only [World.size_alloc] at hBs); repeat' (first | (with_reducible exact hB) | (with_reducible exact hBs) | (with_reducible refine Below.drew ?_) | (with_reducible refine below_drewN ?_ _) | (with_reducible refine Below.setCell ?_ ?_ _) | (with_reducible refine Below.alloc ?_ ?_ _) | go_size | omega | (simp; omega)))
  · obtain rfl : y = false := by simpa using hbad
    have a0 := bC1.cell 0
    have a1 := bC1.cell 1
    have a2 := bC1.cell 2
    have a3 := bC1.cell 3
    go_wp2_with fail
    (with_reducible refine (HC.out _).mono ?_); rintro _ w2 ⟨rfl, hb2⟩
    have bR2 := bR1.below hb2 bR1.lt
    have r0 := bR2.cell 0
    have r1 := bR2.cell 1
    have r2 := bR2.cell 2
    have r3 := bR2.cell 3
    have f0 := bR2.frozen 0
    have f1 := bR2.frozen 1
    have f2 := bR2.frozen 2
    have f3 := bR2.frozen 3
    have kR := bR2.lt
    have hB := hB1.trans (hb2.mono hB1.size)
    clear a0 a1 a2 a3 hb2
    go_wp2
    refine bodyPost_ret (v := srvV 0 0 0 0 2) (by simp [results, Tryz.results30, go_sem, srvV, r0, r1, r2, r3]) rfl ⟨rfl, ?_⟩
    (have hBs := hB.size; (try simp only [World.size_alloc] at hBs); repeat' (first | (with_reducible exact hB) | (with_reducible exact hBs) | (with_reducible refine Below.drew ?_) | (with_reducible refine below_drewN ?_ _) | (with_reducible refine Below.setCell ?_ ?_ _) | (with_reducible refine Below.alloc ?_ ?_ _) | go_size | omega | (simp; omega)))
end Go.Proofs.YtbncfknjgldcbaaGreat
/- calculus.Chain of two servers. -/
namespace Go.Proofs.YtbncfknjgldcbaaGreat
open Go.RowKit Go.Joins Go.Shelf Go.Sort Num

def chainV (r1 L1 r2 L2 : Rat) : Value := if Fit (L1 + L2) then srvV (minq r1 r2).num (minq r1 r2).den (L1 + L2).num (L1 + L2).den 0 else srvV 0 0 0 0 3

set_option maxRecDepth 100000 in
set_option maxHeartbeats 4000000 in
theorem chain_ok (r1 L1 r2 L2 : Rat) (h1 : Fit r1) (p1 : 0 < r1) (h2 : Fit L1) (p2 : 0 ≤ L1) (h3 : Fit r2) (p3 : 0 < r2) (h4 : Fit L2) (p4 : 0 ≤ L2) (w : World) :
    Calls Tryz.prog 30 #[.agg #[.int .i64 r1.num, .int .i64 r1.den, .int .i64 L1.num, .int .i64 L1.den], .agg #[.int .i64 r2.num, .int .i64 r2.den, .int .i64 L2.num, .int .i64 L2.den]] w fun e w' => e = .returned (chainV r1 L1 r2 L2) ∧ Below w.heap.size w w' := by
  have d1 := fit_bd h1
  have d2 := fit_bd h2
  have d3 := fit_bd h3
  have d4 := fit_bd h4
  have HA := fun W => server_any r1.num r1.den L1.num L1.den (by unfold I64; omega) (by unfold I64; omega) (by unfold I64; omega) (by unfold I64; omega) W
  have HC := fun W => server_any r2.num r2.den L2.num L2.den (by unfold I64; omega) (by unfold I64; omega) (by unfold I64; omega) (by unfold I64; omega) W
  rw [srv_yes h1 p1 h2 p2] at HA
  rw [srv_yes h3 p3 h4 p4] at HC
  have HD : ∀ W : World, _ := fun W => add_r h2 h4 W
  have HM : ∀ (g : Nat) (W : World), BoxN W g 25 #[.int .i64 r1.num, .int .i64 r1.den, .int .i64 r2.num, .int .i64 r2.den] → _ := fun g W hG => min2_any r1 r2 h1 h3 g W hG
  unfold chainV
  clear d1 d2 d3 d4 h1 p1 h2 p2 h3 p3 h4 p4
  by_cases hf : Fit (L1 + L2)
  · rw [ofR_yes hf] at HD
    rw [if_pos hf]
    clear hf
    simp only [ratV] at HD
    generalize (minq r1 r2).num = mn at HM ⊢
    generalize ((minq r1 r2).den : Int) = md at HM ⊢
    generalize (L1 + L2).num = ln at HD ⊢
    generalize ((L1 + L2).den : Int) = ld at HD ⊢
    generalize r1.num = an at HA HM ⊢
    generalize (r1.den : Int) = ad at HA HM ⊢
    generalize L1.num = bn at HA HD ⊢
    generalize (L1.den : Int) = bd at HA HD ⊢
    generalize r2.num = cn at HC HM ⊢
    generalize (r2.den : Int) = cd at HC HM ⊢
    generalize L2.num = dn at HC HD ⊢
    generalize (L2.den : Int) = dd at HC HD ⊢
    have hB0 := (((Below.refl w.heap.size w).alloc (Nat.le_refl _) (.cells #[.int .i64 an, .int .i64 ad, .int .i64 bn, .int .i64 bd] 52)).alloc (by simp) (.cells #[.int .i64 cn, .int .i64 cd, .int .i64 dn, .int .i64 dd] 52)).alloc (by simp; omega) (.cells #[.int .i64 0, .int .i64 0, .int .i64 0, .int .i64 0] 52)
    have bA := ((BoxN.new w 52 #[.int .i64 an, .int .i64 ad, .int .i64 bn, .int .i64 bd]).alloc (.cells #[.int .i64 cn, .int .i64 cd, .int .i64 dn, .int .i64 dd] 52)).alloc (.cells #[.int .i64 0, .int .i64 0, .int .i64 0, .int .i64 0] 52)
    have bC := (BoxN.new (w.alloc (.cells #[.int .i64 an, .int .i64 ad, .int .i64 bn, .int .i64 bd] 52)) 52 #[.int .i64 cn, .int .i64 cd, .int .i64 dn, .int .i64 dd]).alloc (.cells #[.int .i64 0, .int .i64 0, .int .i64 0, .int .i64 0] 52)
    rw [World.size_alloc] at bC
    have bR := BoxN.new ((w.alloc (.cells #[.int .i64 an, .int .i64 ad, .int .i64 bn, .int .i64 bd] 52)).alloc (.cells #[.int .i64 cn, .int .i64 cd, .int .i64 dn, .int .i64 dd] 52)) 52 #[.int .i64 0, .int .i64 0, .int .i64 0, .int .i64 0]
    rw [World.size_alloc, World.size_alloc] at bR
    have HA := Lib.hid HA
    have HC := Lib.hid HC
    have HD := Lib.hid HD
    have a0 := bA.cell 0
    have a1 := bA.cell 1
    have a2 := bA.cell 2
    have a3 := bA.cell 3
    go_enter Tryz.func30, Tryz.ntmps30
    go_wp2_with fail
    (with_reducible refine (HA.out _).mono ?_); rintro _ w1 ⟨rfl, hb1⟩
    have bA1 := bA.below hb1 bA.lt
    have bC1 := bC.below hb1 bC.lt
    have bR1 := bR.below hb1 bR.lt
    have hB1 := hB0.trans (hb1.mono hB0.size)
    clear a0 a1 a2 a3 hb1 hB0 bA bR bC
    have a0 := bC1.cell 0
    have a1 := bC1.cell 1
    have a2 := bC1.cell 2
    have a3 := bC1.cell 3
    go_wp2_with fail
    (with_reducible refine (HC.out _).mono ?_); rintro _ w2 ⟨rfl, hb2⟩
    have bA2 := bA1.below hb2 bA1.lt
    have bC2 := bC1.below hb2 bC1.lt
    have bR2 := bR1.below hb2 bR1.lt
    have hB2 := hB1.trans (hb2.mono hB1.size)
    clear a0 a1 a2 a3 hb2 hB1 bA1 bC1 bR1
    have a2 := bA2.cell 2
    have a3 := bA2.cell 3
    have d0 := bC2.cell 0
    have d1 := bC2.cell 1
    have d2 := bC2.cell 2
    have d3 := bC2.cell 3
    go_wp2_with fail
    (with_reducible refine (HD.out _).mono ?_); rintro _ w3 ⟨rfl, hb3⟩
    have bA3 := (bA2.below hb3 bA2.lt).alloc (.cells #[.int .i64 ln, .int .i64 ld] 25)
    have bC3 := (bC2.below hb3 bC2.lt).alloc (.cells #[.int .i64 ln, .int .i64 ld] 25)
    have bR3 := (bR2.below hb3 bR2.lt).alloc (.cells #[.int .i64 ln, .int .i64 ld] 25)
    have bL3 := BoxN.new w3 25 #[.int .i64 ln, .int .i64 ld]
    have hB3 := (hB2.trans (hb3.mono hB2.size))
    have hB3' := hB3.alloc hB3.size (.cells #[.int .i64 ln, .int .i64 ld] 25)
    have a0 := bA3.cell 0
    have a1 := bA3.cell 1
    have c0 := bC3.cell 0
    have c1 := bC3.cell 1
    have kz := hB3.size
    have bN := BoxN.new (w3.alloc (.cells #[.int .i64 ln, .int .i64 ld] 25)) 25 #[.int .i64 an, .int .i64 ad, .int .i64 cn, .int .i64 cd]
    have HMx := HM _ _ bN
    have bL4 := bL3.alloc (.cells #[.int .i64 an, .int .i64 ad, .int .i64 cn, .int .i64 cd] 25)
    have bR4 := bR3.alloc (.cells #[.int .i64 an, .int .i64 ad, .int .i64 cn, .int .i64 cd] 25)
    have hB4 := hB3'.alloc hB3'.size (.cells #[.int .i64 an, .int .i64 ad, .int .i64 cn, .int .i64 cd] 25)
    simp only [World.size_alloc] at HMx
    replace HMx := Lib.hid HMx
    clear a2 a3 d0 d1 d2 d3 hb3 HM bN bL3 bR3 bA3 bC3 bA2 bC2 bR2
    go_wp2_with fail
    (with_reducible refine (HMx.out).mono ?_); rintro _ w4 ⟨rfl, hb4⟩
    have bL5 := (bL4.below hb4 (by first | omega | (simp; done) | (simp; omega))).alloc (.cells #[.int .i64 mn, .int .i64 md] 25)
    have bR5 := (bR4.below hb4 (by have := bR4.lt; first | omega | (simp at this; omega) | (simp at this ⊢; omega))).alloc (.cells #[.int .i64 mn, .int .i64 md] 25)
    have hB := hB4.trans (hb4.mono (by first | omega | (simp; omega)))
    have l0 := bL5.cell 0
    have l1 := bL5.cell 1
    have r0 := bR5.cell 0
    have r1 := bR5.cell 1
    have r2 := bR5.cell 2
    have r3 := bR5.cell 3
    have f0 := bR5.frozen 0
    have f1 := bR5.frozen 1
    have f2 := bR5.frozen 2
    have f3 := bR5.frozen 3
    have kR := bR5.lt
    have kL := bL5.lt
    have kz4 := hb4.size
    try simp only [World.size_alloc] at kz4
    clear a0 a1 c0 c1 hb4
    go_wp2
    refine bodyPost_ret (v := srvV mn md ln ld 0) (by simp [results, Tryz.results30, go_sem, srvV, r0, r1, r2, r3]) rfl ⟨rfl, ?_⟩
    (have hBs := hB.size; (try simp only [World.size_alloc] at hBs); repeat' (first | (with_reducible exact hB) | (with_reducible exact hBs) | (with_reducible refine Below.drew ?_) | (with_reducible refine below_drewN ?_ _) | (with_reducible refine Below.setCell ?_ ?_ _) | (with_reducible refine Below.alloc ?_ ?_ _) | go_size | omega | (simp; omega)))
  · rw [ofR_no hf] at HD
    rw [if_neg hf]
    clear hf HM
    simp only [ratV] at HD
    generalize r1.num = an at HA ⊢
    generalize (r1.den : Int) = ad at HA ⊢
    generalize L1.num = bn at HA HD ⊢
    generalize (L1.den : Int) = bd at HA HD ⊢
    generalize r2.num = cn at HC ⊢
    generalize (r2.den : Int) = cd at HC ⊢
    generalize L2.num = dn at HC HD ⊢
    generalize (L2.den : Int) = dd at HC HD ⊢
    have hB0 := (((Below.refl w.heap.size w).alloc (Nat.le_refl _) (.cells #[.int .i64 an, .int .i64 ad, .int .i64 bn, .int .i64 bd] 52)).alloc (by simp) (.cells #[.int .i64 cn, .int .i64 cd, .int .i64 dn, .int .i64 dd] 52)).alloc (by simp; omega) (.cells #[.int .i64 0, .int .i64 0, .int .i64 0, .int .i64 0] 52)
    have bA := ((BoxN.new w 52 #[.int .i64 an, .int .i64 ad, .int .i64 bn, .int .i64 bd]).alloc (.cells #[.int .i64 cn, .int .i64 cd, .int .i64 dn, .int .i64 dd] 52)).alloc (.cells #[.int .i64 0, .int .i64 0, .int .i64 0, .int .i64 0] 52)
    have bC := (BoxN.new (w.alloc (.cells #[.int .i64 an, .int .i64 ad, .int .i64 bn, .int .i64 bd] 52)) 52 #[.int .i64 cn, .int .i64 cd, .int .i64 dn, .int .i64 dd]).alloc (.cells #[.int .i64 0, .int .i64 0, .int .i64 0, .int .i64 0] 52)
    rw [World.size_alloc] at bC
    have bR := BoxN.new ((w.alloc (.cells #[.int .i64 an, .int .i64 ad, .int .i64 bn, .int .i64 bd] 52)).alloc (.cells #[.int .i64 cn, .int .i64 cd, .int .i64 dn, .int .i64 dd] 52)) 52 #[.int .i64 0, .int .i64 0, .int .i64 0, .int .i64 0]
    rw [World.size_alloc, World.size_alloc] at bR
    have HA := Lib.hid HA
    have HC := Lib.hid HC
    have HD := Lib.hid HD
    have a0 := bA.cell 0
    have a1 := bA.cell 1
    have a2 := bA.cell 2
    have a3 := bA.cell 3
    go_enter Tryz.func30, Tryz.ntmps30
    go_wp2_with fail
    (with_reducible refine (HA.out _).mono ?_); rintro _ w1 ⟨rfl, hb1⟩
    have bA1 := bA.below hb1 bA.lt
    have bC1 := bC.below hb1 bC.lt
    have bR1 := bR.below hb1 bR.lt
    have hB1 := hB0.trans (hb1.mono hB0.size)
    clear a0 a1 a2 a3 hb1 hB0 bA bR bC
    have a0 := bC1.cell 0
    have a1 := bC1.cell 1
    have a2 := bC1.cell 2
    have a3 := bC1.cell 3
    go_wp2_with fail
    (with_reducible refine (HC.out _).mono ?_); rintro _ w2 ⟨rfl, hb2⟩
    have bA2 := bA1.below hb2 bA1.lt
    have bC2 := bC1.below hb2 bC1.lt
    have bR2 := bR1.below hb2 bR1.lt
    have hB2 := hB1.trans (hb2.mono hB1.size)
    clear a0 a1 a2 a3 hb2 hB1 bA1 bC1 bR1
    have a2 := bA2.cell 2
    have a3 := bA2.cell 3
    have d0 := bC2.cell 0
    have d1 := bC2.cell 1
    have d2 := bC2.cell 2
    have d3 := bC2.cell 3
    go_wp2_with fail
    (with_reducible refine (HD.out _).mono ?_); rintro _ w3 ⟨rfl, hb3⟩
    have bR3 := (bR2.below hb3 bR2.lt).alloc (.cells #[.int .i64 0, .int .i64 0] 25)
    have hB := (hB2.trans (hb3.mono hB2.size))
    have r0 := bR3.cell 0
    have r1 := bR3.cell 1
    have r2 := bR3.cell 2
    have r3 := bR3.cell 3
    have f0 := bR3.frozen 0
    have f1 := bR3.frozen 1
    have f2 := bR3.frozen 2
    have f3 := bR3.frozen 3
    have kR := bR3.lt
    clear a2 a3 d0 d1 d2 d3 hb3
    go_wp2
    refine bodyPost_ret (v := srvV 0 0 0 0 3) (by simp [results, Tryz.results30, go_sem, srvV, r0, r1, r2, r3]) rfl ⟨rfl, ?_⟩
    (have hBs := hB.size; (try simp only [World.size_alloc] at hBs); repeat' (first | (with_reducible exact hB) | (with_reducible exact hBs) | (with_reducible refine Below.drew ?_) | (with_reducible refine below_drewN ?_ _) | (with_reducible refine Below.setCell ?_ ?_ _) | (with_reducible refine Below.alloc ?_ ?_ _) | go_size | omega | (simp; omega)))
end Go.Proofs.YtbncfknjgldcbaaGreat
