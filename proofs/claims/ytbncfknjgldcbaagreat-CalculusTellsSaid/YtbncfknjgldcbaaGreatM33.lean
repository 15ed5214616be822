/- Merged texts: TTopD. -/
import Derived.Test.YtbncfknjgldcbaaGreatM32
/- The reference's Delay of valid arguments. -/
namespace Go.Proofs.YtbncfknjgldcbaaGreat
open Go.RowKit Go.Joins Go.Shelf Go.Sort Num

set_option maxRecDepth 100000 in
set_option maxHeartbeats 8000000 in
theorem rdelay_top (A : Option Addr) (cap : Nat) (cs : List (List Buck)) (hl : cs.length ≤ 32) (r L : Rat) (hr : Fit r) (hr0 : 0 < r) (hL : Fit L) (hL0 : 0 ≤ L) (w : World) (hI : isL A cs w) :
    Calls Tryz.prog 27 #[.slice A cs.length cap, .agg #[.int .i64 r.num, .int .i64 r.den, .int .i64 L.num, .int .i64 L.den]] w fun e w' => e = .returned (ratV (delayV cs r L)) ∧ Below w.heap.size w w' := by
  obtain ⟨i0, hi, hz0, hz1, hz2⟩ := info_parts infoR
  have hB0 := Lib.hid (((Below.refl w.heap.size w).alloc (Nat.le_refl _) (.cells #[.int .i64 r.num, .int .i64 r.den, .int .i64 L.num, .int .i64 L.den] 52)).alloc (by simp) (.cells #[.int .i64 0, .int .i64 0] 25))
  have bS0 := (BoxN.new w 52 #[.int .i64 r.num, .int .i64 r.den, .int .i64 L.num, .int .i64 L.den]).alloc (.cells #[.int .i64 0, .int .i64 0] 25)
  have bR0 := BoxN.new (w.alloc (.cells #[.int .i64 r.num, .int .i64 r.den, .int .i64 L.num, .int .i64 L.den] 52)) 25 #[.int .i64 0, .int .i64 0]
  rw [World.size_alloc] at bR0
  have HK := rcheck_ok A cap cs hl r L hr hr0 hL hL0 _ (cl_isL A cs w _ hI hB0.out)
  have hne : ∀ c ∈ cs, c ≠ [] := fun c hc e => by have := (hI.ok c hc).1; rw [e] at this; simp at this
  have hpl : (chP cs).length ≤ 70000 := by
    have := ptsL_len (cs := cs) fun x hx => (hI.ok x hx).2
    unfold chP
    rw [List.length_cons, arP_len]
    omega
  have HV : Hid (∀ (p : Pt) (W : World), 0 ≤ p.q → Below w.heap.size w W → Calls Tryz.prog 75 #[.slice A cs.length cap, .agg #[.int .i64 r.num, .int .i64 r.den, .int .i64 L.num, .int .i64 L.den], .agg #[.int .i64 p.q.num, .int .i64 p.q.den]] W fun e w' => e = .returned (ratV (numV (delayO cs r L p.q))) ∧ Below W.heap.size W w') := fun p W hp hW => rdelay_any A cap cs (by omega) r L p.q hr (by intro e; rw [e] at hr0; exact absurd hr0 (by decide)) hL p.h hp W (cl_isL A cs w W hI hW)
  have HCm : Hid (∀ (x y : Rat) (W : World), Fit x → Fit y → Calls Tryz.prog 53 #[.agg #[.int .i64 x.num, .int .i64 x.den], .agg #[.int .i64 y.num, .int .i64 y.den]] W fun e w' => e = .returned (.int .i64 (cmpQ x y)) ∧ Below W.heap.size W w') := fun x y W hx hy => Ref.cmp_r hx hy W
  have hfit : Hid (∀ p : Pt, fitO (delayO cs r L p.q)) := fun p => delayO_fit cs r L p.q
  have hz0v : Hid (∀ v, delayO cs r L (ptZ 0).q = some v → 0 ≤ v) := fun v h => by rw [ptZ_q (by decide)] at h; exact delay0_nn hne hr0 hL0 v h
  have hsp : Hid (prepE cs r = 0 → delayV cs r L = numV (greatP (fun p => delayO cs r L p.q) (chP cs))) := fun h => by
    unfold delayV
    rw [if_pos h, greatP_z (fun q => delayO cs r L q) (chP cs) (ptsL cs) (pts_nn (prep_ok0 h)) (chP_mem cs)]
  have hpn : Hid (prepE cs r = 0 → ∀ p ∈ chP cs, 0 ≤ p.q) := fun h p hp => by
    rcases (chP_mem cs p).1 hp with rfl | ⟨t, ht, e⟩
    · rw [ptZ_q (by decide)]; exact Rat.le_refl
    · obtain ⟨⟨f1, f2⟩, f3, f4⟩ := tick_bd (pts_nn (prep_ok0 h) t ht)
      rcases e with rfl | rfl
      · rw [ptZ_q (by omega)]; exact Rat.intCast_le_intCast.2 f1
      · rw [ptZ_q (by omega)]; exact Rat.intCast_le_intCast.2 f3
  have hE : Hid (prepE cs r ≠ 0 → delayV cs r L = (0, 0, prepE cs r)) := fun h => by unfold delayV; rw [if_neg h]
  obtain ⟨res, hres⟩ : ∃ v, delayV cs r L = v := ⟨_, rfl⟩
  rw [hres] at hsp hE ⊢
  obtain ⟨pe, hpe⟩ : ∃ v, prepE cs r = v := ⟨_, rfl⟩
  rw [hpe] at hsp hE hpn HK
  obtain ⟨f, hf⟩ : ∃ f : Pt → Option Rat, (fun p : Pt => delayO cs r L p.q) = f := ⟨_, rfl⟩
  have hfa : ∀ p : Pt, delayO cs r L p.q = f p := fun p => by rw [← hf]
  simp only [hfa] at HV hfit hz0v
  rw [hf] at hsp
  obtain ⟨ps, hps⟩ : ∃ p, chP cs = p := ⟨_, rfl⟩
  have hp0 : Hid (ps[0]? = some (ptZ 0)) := by unfold Hid; rw [← hps]; rfl
  rw [hps] at HK hpl hsp hpn
  clear hres hpe hf hfa hps hne hr0 hr hL0 hI
  generalize r.num = rn at *
  generalize (r.den : Int) = rd at *
  generalize L.num = Ln at *
  generalize (L.den : Int) = Ld at *
  replace HK := Lib.hid HK
  have s0 := bS0.cell 0
  have s1 := bS0.cell 1
  have s2 := bS0.cell 2
  have s3 := bS0.cell 3
  go_enter Tryz.func27, Tryz.ntmps27
  go_wp2_with fail
  (with_reducible refine (HK.out).mono ?_); rintro e w1 ⟨hk1, hk2, hb1⟩
  have hB1 := Lib.hid (hB0.out.trans (hb1.mono hB0.out.size))
  have bS1 := Lib.hid (bS0.below hb1 bS0.lt)
  have bR1 := Lib.hid (bR0.below hb1 bR0.lt)
  have hz1' := hb1.size
  simp only [World.size_alloc] at hz1'
  clear s0 s1 s2 s3 hb1 hB0 bS0 bR0 HK
  by_cases hpz : pe = 0
  case neg =>
    obtain rfl := hk1 hpz
    have hend := Lib.hid (hE.out hpz)
    have hpe0 : (pe == 0) = false := by simp [hpz]
    have r0 := bR1.out.cell 0
    have r1 := bR1.out.cell 1
    have rf0 := bR1.out.frozen 0
    have rf1 := bR1.out.frozen 1
    have kR := bR1.out.lt
    have hBe := Lib.hid ((hB1.out.setCell (p := ⟨w.heap.size + 1, 0, none⟩) (by simp) (.int .i64 0)).setCell (p := ⟨w.heap.size + 1, 1, none⟩) (by simp) (.int .i64 0))
    clear hk1 hk2 hsp hE hpn
    go_wp2_with fail
    refine bodyPost_ret (v := ratV (0, 0, pe)) (by simp [results, Tryz.results27, go_sem, ratV, r0, r1]) rfl ⟨by rw [hend.out], hBe.out⟩
  obtain ⟨v1, rfl, hown1⟩ := hk2 hpz
  subst hpz
  obtain ⟨A1, c1, rfl, hP1⟩ := own_isP hown1
  have hspx := Lib.hid (hsp.out rfl)
  have hpnx := Lib.hid (hpn.out rfl)
  clear hk1 hk2 hsp hpn hE
  have bB := BoxN.new w1 25 #[.int .i64 0, .int .i64 0]
  have hB2 := Lib.hid (hB1.out.alloc hB1.out.size (.cells #[.int .i64 0, .int .i64 0] 25))
  have bS2 := Lib.hid (bS1.out.alloc (.cells #[.int .i64 0, .int .i64 0] 25))
  have bR2 := Lib.hid (bR1.out.alloc (.cells #[.int .i64 0, .int .i64 0] 25))
  have hP2 := Lib.hid (cl_isP A1 ps _ _ hP1 ((Below.refl w1.heap.size w1).alloc (Nat.le_refl _) (.cells #[.int .i64 0, .int .i64 0] 25)))
  have bB := Lib.hid bB
  have hPh := Lib.hid hP1
  clear hown1 hP1 hB1 bS1 bR1
  go_wp2_with fail
  go_loopw [9] (fun i z => ∃ (k : Nat) (bn bd : Int), k ≤ ps.length ∧ i = .int .i64 ↑k ∧ Hid (∀ p ∈ ps.take k, (f p).isSome = true) ∧ Hid (0 < k → bn = (mxP f (ps.take k)).num ∧ bd = ((mxP f (ps.take k)).den : Int)) ∧ Hid (BoxN z w1.heap.size 25 #[.int .i64 bn, .int .i64 bd]) ∧ Hid (BoxN z w.heap.size 52 #[.int .i64 rn, .int .i64 rd, .int .i64 Ln, .int .i64 Ld]) ∧ Hid (BoxN z (w.heap.size + 1) 25 #[.int .i64 0, .int .i64 0]) ∧ Hid (isP A1 ps z) ∧ Hid (Below w.heap.size w z)) (fun i _ => ps.length - (intOf i).toNat)
  case atStart => exact ⟨0, 0, 0, Nat.zero_le _, rfl, by intro p hp; simp at hp, (fun h => by omega), bB.out, bS2.out, bR2.out, hP2.out, hB2.out⟩
  case round =>
    obtain ⟨k, bn, bd, hk, rfl, hall, hmx, bB, bS, bR, hP, hB⟩ := hrel
    clear hB2 bS2 bR2 hP2
    have hkb : (k : Int) ≤ 100000 := by omega
    by_cases hlt : k < ps.length
    · have hd : decide ((k : Int) < ps.length) = true := decide_eq_true (by omega)
      have hp : ps[k]? = some (ps[k]'hlt) := List.getElem?_eq_getElem hlt
      obtain ⟨p, hpe⟩ : ∃ p, ps[k]'hlt = p := ⟨_, rfl⟩
      rw [hpe] at hp
      have hpm := List.mem_of_getElem? hp
      have hpq := hpnx.out p hpm
      have hp00 : Hid (k = 0 → p = ptZ 0) := fun h => by
        have := hp0.out
        rw [h] at hp
        rw [hp] at this
        exact Option.some.inj this
      have HVx := Lib.hid (fun W hW => HV.out p W hpq hW)
      have hts := Lib.hid (take_succ' hp)
      have hfp := Lib.hid (hfit.out p)
      have hno : Hid (f p = none → res = (0, 0, 3)) := fun h => by
        rw [hspx.out, greatP, if_neg (fun k => by have := k p hpm; rw [h] at this; cases this)]; rfl
      have hms : Hid (mxP f (ps.take (k + 1)) = if mxP f (ps.take k) < (f p).getD 0 then (f p).getD 0 else mxP f (ps.take k)) := by unfold Hid; rw [hts.out, mxP_snoc]
      have hall2 : Hid ((f p).isSome = true → ∀ q ∈ ps.take (k + 1), (f q).isSome = true) := fun h q hq => by
        rw [hts.out] at hq
        rcases List.mem_append.1 hq with hq | hq
        · exact hall.out q hq
        · rw [List.mem_singleton.1 hq]; exact h
      obtain ⟨g, rfl, hgW, -⟩ := hPh.out (by intro e; rw [e] at hlt; simp at hlt)
      obtain ⟨g', eg, hg, hr⟩ := hP.out (by intro e; rw [e] at hlt; simp at hlt)
      simp only [Option.some.injEq, Addr.mk.injEq, and_true] at eg
      subst eg
      obtain ⟨d0, d1⟩ := hr k p hp
      simp only [Nat.zero_add] at d0 d1
      have s0 := bS.out.cell 0
      have s1 := bS.out.cell 1
      have s2 := bS.out.cell 2
      have s3 := bS.out.cell 3
      have kS := bS.out.lt
      obtain ⟨o, ho⟩ : ∃ o, f p = o := ⟨_, rfl⟩
      have hz0w : Hid (k = 0 → ∀ v, o = some v → 0 ≤ v) := fun h v hv => hz0v.out v (by rw [← hp00.out h, ho]; exact hv)
      replace HVx := HVx.out
      rw [ho] at HVx hfp hno hms hall2
      obtain ⟨⟨vn, vd, ve⟩, hnv⟩ : ∃ t, numV o = t := ⟨_, rfl⟩
      rw [hnv] at HVx
      simp only [ratV] at HVx
      obtain ⟨pn, hpn'⟩ : ∃ z, p.q.num = z := ⟨_, rfl⟩
      obtain ⟨pd, hpd'⟩ : ∃ z, (p.q.den : Int) = z := ⟨_, rfl⟩
      rw [hpn'] at HVx d0
      rw [hpd'] at HVx d1
      replace HVx := Lib.hid HVx
      have Hnv := Lib.hid hnv
      clear hp hpe hpm hpq hr ho hnv hpn' hpd' hts hp00
      go_wp2_with fail
      refine wp_region_inv (Inv := fun Lb a W => ∃ (b0 b1 b2 b3 b4 b5 b6 b7 b8 b9 b10 b11 b12 : Bool) (G10 : Nat), Lb = #[b0, b1, b2, b3, b4, b5, b6, b7, b8, b9, b10, b11, b12] ∧ a = { tmps := #[Value.slice A cs.length cap, Value.agg #[Value.int IntKind.i64 rn, Value.int IntKind.i64 rd, Value.int IntKind.i64 Ln, Value.int IntKind.i64 Ld], undef, Value.pointer (some ⟨w.heap.size, 0, none⟩), Value.pointer (some ⟨w.heap.size + 1, 0, none⟩), u5, Value.slice (some ⟨g, 0, none⟩) ps.length c1, Value.int IntKind.i64 0, Value.pointer (some ⟨w1.heap.size, 0, none⟩), Value.int IntKind.i64 ↑k, (bif b10 then .pointer (some ⟨G10, 0, none⟩) else u10), (bif b12 then .int .i64 ve else u11), Value.tuple #[Value.slice (some ⟨g, 0, none⟩) ps.length c1, Value.int IntKind.i64 0], Value.slice A cs.length cap, Value.agg #[Value.int IntKind.i64 rn, Value.int IntKind.i64 rd, Value.int IntKind.i64 Ln, Value.int IntKind.i64 Ld], Value.tuple #[Value.slice (some ⟨g, 0, none⟩) ps.length c1, Value.int IntKind.i64 0], Value.slice (some ⟨g, 0, none⟩) ps.length c1, Value.int IntKind.i64 0, Value.int IntKind.i64 0, Value.bool false, undef, undef, Value.int IntKind.i64 ↑k, Value.slice (some ⟨g, 0, none⟩) ps.length c1, Value.int IntKind.i64 ↑ps.length, Value.bool true, u26, u27, (bif b7 then .tuple #[.agg #[.int .i64 vn, .int .i64 vd], .int .i64 ve] else u28), (bif b0 then .slice A cs.length cap else u29), (bif b1 then .agg #[.int .i64 rn, .int .i64 rd, .int .i64 Ln, .int .i64 Ld] else u30), (bif b2 then .slice (some ⟨g, 0, none⟩) ps.length c1 else u31), (bif b3 then .int .i64 (k : Nat) else u32), (bif b4 then .pointer (some ⟨g, k * 2, none⟩) else u33), (bif b5 then .agg #[.int .i64 pn, .int .i64 pd] else u34), (bif b6 then .tuple #[.agg #[.int .i64 vn, .int .i64 vd], .int .i64 ve] else u35), (bif b8 then .agg #[.int .i64 vn, .int .i64 vd] else u36), (bif b9 then .int .i64 ve else u37), u38, u39, u40, u41, u42, u43, u44, u45, u46, u47, u48, u49, u50, undef], defers := [] } ∧ (b11 = true → b10 = true) ∧ Below wr.heap.size wr W ∧ (b10 = true → wr.heap.size ≤ G10 ∧ G10 < W.heap.size ∧ (b11 = false → BoxN W G10 25 #[.int .i64 0, .int .i64 0]) ∧ (b11 = true → BoxN W G10 25 #[.int .i64 vn, .int .i64 vd]))) (by kernel_rfl) (down_of (by decide +kernel)) ?start ?size ?done ?step
      case start => exact ⟨false, false, false, false, false, false, false, false, false, false, false, false, false, 0, rfl, rfl, by simp, (Below.refl _ _).drew, by simp⟩
      case size =>
        rintro Lb aR W ⟨b0, b1, b2, b3, b4, b5, b6, b7, b8, b9, b10, b11, b12, G10, rfl, -⟩
        rfl
      case step =>
        rintro Lb aR W i o ⟨b0, b1, b2, b3, b4, b5, b6, b7, b8, b9, b10, b11, b12, G10, rfl, rfl, p11, f0, f1⟩ ho hl' hdep
        have hi' : i < 13 := (Array.getElem?_eq_some_iff.1 ho).1
        have hi2 : i = 0 ∨ i = 1 ∨ i = 2 ∨ i = 3 ∨ i = 4 ∨ i = 5 ∨ i = 6 ∨ i = 7 ∨ i = 8 ∨ i = 9 ∨ i = 10 ∨ i = 11 ∨ i = 12 := by omega
        clear hi'
        replace p11 := Lib.hid p11
        replace f0 := Lib.hid f0
        replace f1 := Lib.hid f1
        rcases hi2 with rfl | rfl | rfl | rfl | rfl | rfl | rfl | rfl | rfl | rfl | rfl | rfl | rfl
        · cases ho
          obtain rfl : b0 = false := hl'
          clear hdep
          refine wpOp_step rfl (fun K hK => ?_)
          go_simp
          refine hK _ _ ?_; clear hK K
          exact ⟨true, b1, b2, b3, b4, b5, b6, b7, b8, b9, b10, b11, b12, G10, rfl, rfl, p11.out, f0.out, f1.out⟩
        · cases ho
          obtain rfl : b1 = false := hl'
          clear hdep
          have c0 := (f0.out.cell (kS)).trans s0
          have c1 := (f0.out.cell (kS)).trans s1
          have c2 := (f0.out.cell (kS)).trans s2
          have c3 := (f0.out.cell (kS)).trans s3
          refine wpOp_step rfl (fun K hK => ?_)
          go_simp
          refine hK _ _ ?_; clear hK K
          exact ⟨b0, true, b2, b3, b4, b5, b6, b7, b8, b9, b10, b11, b12, G10, rfl, rfl, p11.out, f0.out, f1.out⟩
        · cases ho
          obtain rfl : b2 = false := hl'
          clear hdep
          refine wpOp_step rfl (fun K hK => ?_)
          go_simp
          refine hK _ _ ?_; clear hK K
          exact ⟨b0, b1, true, b3, b4, b5, b6, b7, b8, b9, b10, b11, b12, G10, rfl, rfl, p11.out, f0.out, f1.out⟩
        · cases ho
          obtain rfl : b3 = false := hl'
          clear hdep
          refine wpOp_step rfl (fun K hK => ?_)
          go_simp
          refine hK _ _ ?_; clear hK K
          exact ⟨b0, b1, b2, true, b4, b5, b6, b7, b8, b9, b10, b11, b12, G10, rfl, rfl, p11.out, f0.out, f1.out⟩
        · cases ho
          obtain rfl : b4 = false := hl'
          obtain rfl : b2 = true := hdep ⟨2, .data⟩ (by simp) rfl
          obtain rfl : b3 = true := hdep ⟨3, .data⟩ (by simp) rfl
          clear hdep
          refine wpOp_step rfl (fun K hK => ?_)
          simp only [cond_true]
          go_simp
          refine hK _ _ ?_; clear hK K
          exact ⟨b0, b1, true, true, true, b5, b6, b7, b8, b9, b10, b11, b12, G10, rfl, rfl, p11.out, f0.out, f1.out⟩
        · cases ho
          obtain rfl : b5 = false := hl'
          obtain rfl : b4 = true := hdep ⟨4, .data⟩ (by simp) rfl
          clear hdep
          have c0 := (f0.out.cell (hg)).trans d0
          have c1 := (f0.out.cell (hg)).trans d1
          refine wpOp_step rfl (fun K hK => ?_)
          simp only [cond_true]
          go_simp
          refine hK _ _ ?_; clear hK K
          exact ⟨b0, b1, b2, b3, true, true, b6, b7, b8, b9, b10, b11, b12, G10, rfl, rfl, p11.out, f0.out, f1.out⟩
        · cases ho
          obtain rfl : b6 = false := hl'
          obtain rfl : b0 = true := hdep ⟨0, .data⟩ (by simp) rfl
          obtain rfl : b1 = true := hdep ⟨1, .data⟩ (by simp) rfl
          obtain rfl : b5 = true := hdep ⟨5, .data⟩ (by simp) rfl
          clear hdep
          refine wpOp_step rfl (fun K hK => ?_)
          simp only [cond_true]
          go_simp
          (with_reducible refine (HVx.out _ (hB.out.trans (f0.out.mono hB.out.size))).mono ?_); rintro e w4 ⟨rfl, hb⟩
          refine hK _ _ ?_; clear hK K
          exact ⟨true, true, b2, b3, b4, true, true, b7, b8, b9, b10, b11, b12, G10, rfl, rfl, p11.out, f0.out.trans (hb.mono f0.out.size), fun h => ⟨(f1.out h).1, Nat.lt_of_lt_of_le (f1.out h).2.1 hb.size, fun e => ((f1.out h).2.2.1 e).below hb (f1.out h).2.1, fun e => ((f1.out h).2.2.2 e).below hb (f1.out h).2.1⟩⟩
        · cases ho
          obtain rfl : b7 = false := hl'
          obtain rfl : b6 = true := hdep ⟨6, .data⟩ (by simp) rfl
          clear hdep
          refine wpOp_step rfl (fun K hK => ?_)
          simp only [cond_true]
          go_simp
          refine hK _ _ ?_; clear hK K
          exact ⟨b0, b1, b2, b3, b4, b5, true, true, b8, b9, b10, b11, b12, G10, rfl, rfl, p11.out, f0.out, f1.out⟩
        · cases ho
          obtain rfl : b8 = false := hl'
          obtain rfl : b7 = true := hdep ⟨7, .data⟩ (by simp) rfl
          clear hdep
          refine wpOp_step rfl (fun K hK => ?_)
          simp only [cond_true]
          go_simp
          refine hK _ _ ?_; clear hK K
          exact ⟨b0, b1, b2, b3, b4, b5, b6, true, true, b9, b10, b11, b12, G10, rfl, rfl, p11.out, f0.out, f1.out⟩
        · cases ho
          obtain rfl : b9 = false := hl'
          obtain rfl : b7 = true := hdep ⟨7, .data⟩ (by simp) rfl
          clear hdep
          refine wpOp_step rfl (fun K hK => ?_)
          simp only [cond_true]
          go_simp
          refine hK _ _ ?_; clear hK K
          exact ⟨b0, b1, b2, b3, b4, b5, b6, true, b8, true, b10, b11, b12, G10, rfl, rfl, p11.out, f0.out, f1.out⟩
        · cases ho
          obtain rfl : b10 = false := hl'
          clear hdep
          obtain rfl : b11 = false := by cases b11 with | false => rfl | true => exact absurd (p11.out rfl) (by simp)
          refine wpOp_step rfl (fun K hK => ?_)
          go_simp
          refine hK _ _ ?_; clear hK K
          exact ⟨b0, b1, b2, b3, b4, b5, b6, b7, b8, b9, true, false, b12, W.heap.size, rfl, rfl, by simp, f0.out.alloc f0.out.size _, fun _ => ⟨f0.out.size, by simp, fun _ => BoxN.new W 25 #[.int .i64 0, .int .i64 0], by simp⟩⟩
        · cases ho
          obtain rfl : b11 = false := hl'
          obtain rfl : b10 = true := hdep ⟨10, .data⟩ (by simp) rfl
          obtain rfl : b8 = true := hdep ⟨8, .data⟩ (by simp) rfl
          clear hdep
          obtain ⟨hle, hlt, hbz, -⟩ := f1.out rfl
          have bS := hbz rfl
          clear hbz
          have z0 := bS.cell 0
          have y0 := bS.frozen 0
          have z1 := bS.cell 1
          have y1 := bS.frozen 1
          refine wpOp_step rfl (fun K hK => ?_)
          simp only [cond_true]
          go_simp
          refine hK _ _ ?_; clear hK K
          exact ⟨b0, b1, b2, b3, b4, b5, b6, b7, true, b9, true, true, b12, G10, rfl, rfl, by simp, ((f0.out.setCell (p := ⟨G10, 0, none⟩) hle (.int .i64 vn)).setCell (p := ⟨G10, 1, none⟩) hle (.int .i64 vd)), fun _ => ⟨hle, by simpa using hlt, by simp, fun _ => bS.set2 (.int .i64 vn) (.int .i64 vd)⟩⟩
        · cases ho
          obtain rfl : b12 = false := hl'
          obtain rfl : b9 = true := hdep ⟨9, .data⟩ (by simp) rfl
          clear hdep
          refine wpOp_step rfl (fun K hK => ?_)
          simp only [cond_true]
          go_simp
          refine hK _ _ ?_; clear hK K
          exact ⟨b0, b1, b2, b3, b4, b5, b6, b7, b8, true, b10, b11, true, G10, rfl, rfl, p11.out, f0.out, f1.out⟩
      case done =>
        rintro Lb aR W ⟨j0, j1, j2, j3, j4, j5, j6, j7, j8, j9, j10, j11, j12, G10, rfl, rfl, -, f0, f1⟩ hall
        obtain rfl : j0 = true := hall 0 (by decide)
        obtain rfl : j1 = true := hall 1 (by decide)
        obtain rfl : j2 = true := hall 2 (by decide)
        obtain rfl : j3 = true := hall 3 (by decide)
        obtain rfl : j4 = true := hall 4 (by decide)
        obtain rfl : j5 = true := hall 5 (by decide)
        obtain rfl : j6 = true := hall 6 (by decide)
        obtain rfl : j7 = true := hall 7 (by decide)
        obtain rfl : j8 = true := hall 8 (by decide)
        obtain rfl : j9 = true := hall 9 (by decide)
        obtain rfl : j10 = true := hall 10 (by decide)
        obtain rfl : j11 = true := hall 11 (by decide)
        obtain rfl : j12 = true := hall 12 (by decide)
        clear hall
        obtain ⟨hg0, hg1, -, hbx⟩ := f1 rfl
        replace hbx := hbx rfl
        have hB5 := Lib.hid (hB.out.trans (f0.mono hB.out.size))
        have bB5 := bB.out.below f0 bB.out.lt
        have bS5 := bS.out.below f0 bS.out.lt
        have bR5 := bR.out.below f0 bR.out.lt
        have hP5 := Lib.hid (cl_isP _ ps _ _ hP.out f0)
        have hgB : w1.heap.size < G10 := Nat.lt_of_lt_of_le bB.out.lt hg0
        clear f0 f1 d0 d1 s0 s1 s2 s3 kS bB bS bR hP hB
        simp only [cond_true]
        obtain ⟨Y5, hY5⟩ : ∃ Y, Y = W := ⟨_, rfl⟩
        obtain ⟨g10, hg10⟩ : ∃ g, g = G10 := ⟨_, rfl⟩
        subst hY5 hg10
        rcases o with _ | x
        · have e1 := Hnv.out
          simp only [numV, Prod.mk.injEq] at e1
          obtain ⟨rfl, rfl, rfl⟩ := e1
          have hend := Lib.hid (hno.out rfl)
          have r0 := bR5.cell 0
          have r1 := bR5.cell 1
          have rf0 := bR5.frozen 0
          have rf1 := bR5.frozen 1
          have kR := bR5.lt
          have hBe := Lib.hid ((hB5.out.setCell (p := ⟨w.heap.size + 1, 0, none⟩) (by simp) (.int .i64 0)).setCell (p := ⟨w.heap.size + 1, 1, none⟩) (by simp) (.int .i64 0))
          go_wp2_with fail
          refine bodyPost_ret (v := ratV (0, 0, 3)) (by simp [results, Tryz.results27, go_sem, ratV, r0, r1]) rfl ⟨by rw [hend.out], hBe.out⟩
        · have e1 := Hnv.out
          simp only [numV, Prod.mk.injEq] at e1
          obtain ⟨rfl, rfl, rfl⟩ := e1
          have hal := Lib.hid (hall2.out rfl)
          have hfx := hfp.out x rfl
          have hms2 : Hid (mxP f (ps.take (k + 1)) = if mxP f (ps.take k) < x then x else mxP f (ps.take k)) := hms.out
          have x0 := hbx.cell 0
          have x1 := hbx.cell 1
          have kX := hbx.lt
          have q0 := bB5.cell 0
          have q1 := bB5.cell 1
          have qf0 := bB5.frozen 0
          have qf1 := bB5.frozen 1
          have kQ := bB5.lt
          by_cases hk0 : k = 0
          · subst hk0
            have hxn := hz0w.out rfl x rfl
            have hmq : Hid (mxP f (ps.take (0 + 1)) = x) := by
              unfold Hid
              rw [hms2.out, List.take_zero]
              show (if (0 : Rat) < x then x else 0) = x
              split
              · rfl
              · rename_i h; exact Rat.le_antisymm hxn (Rat.not_lt.1 h)
            have hmn := Lib.hid (congrArg Rat.num hmq.out)
            have hmd := Lib.hid (congrArg (fun q : Rat => (q.den : Int)) hmq.out)
            have bB8 := Lib.hid (bB5.set2 (.int .i64 x.num) (.int .i64 (x.den : Int)))
            have bS8 := Lib.hid ((bS5.far (p := ⟨w1.heap.size, 0, none⟩) (by first | omega | (simp; omega)) (.int .i64 x.num)).far (p := ⟨w1.heap.size, 1, none⟩) (by first | omega | (simp; omega)) (.int .i64 (x.den : Int)))
            have bR8 := Lib.hid ((bR5.far (p := ⟨w1.heap.size, 0, none⟩) (by first | omega | (simp; omega)) (.int .i64 x.num)).far (p := ⟨w1.heap.size, 1, none⟩) (by first | omega | (simp; omega)) (.int .i64 (x.den : Int)))
            have hP8 := Lib.hid (isP_far2 (B := w1.heap.size) hP5.out (by omega) (.int .i64 x.num) (.int .i64 (x.den : Int)))
            have hB8 := Lib.hid ((hB5.out.setCell (p := ⟨w1.heap.size, 0, none⟩) (by first | omega | (simp; omega)) (.int .i64 x.num)).setCell (p := ⟨w1.heap.size, 1, none⟩) (by first | omega | (simp; omega)) (.int .i64 (x.den : Int)))
            clear hms hms2 hno hall2 hxn
            go_wp2_with fail
            go_roundw
            case rel => exact ⟨0 + 1, x.num, x.den, by omega, by go_num, hal.out, fun _ => ⟨hmn.out.symm, hmd.out.symm⟩, bB8.out, bS8.out, bR8.out, hP8.out, hB8.out⟩
            case measure => simp [intOf]; omega
          · obtain ⟨rfl, rfl⟩ := hmx.out (by omega)
            have hfm := mxP_fit hfit.out (ps.take k)
            have HCx := Lib.hid (fun W => HCm.out x (mxP f (ps.take k)) W hfx hfm)
            have hcq : Hid (0 < cmpQ x (mxP f (ps.take k)) ↔ mxP f (ps.take k) < x) := Ref.cmpQ_pos
            have hk0b : ((k : Int) == 0) = false := by simp [hk0]
            have hmn : Hid (∀ v, mxP f (ps.take (k + 1)) = v → v.num = (mxP f (ps.take (k + 1))).num ∧ (v.den : Int) = ((mxP f (ps.take (k + 1))).den : Int)) := fun v h => by rw [h]; exact ⟨rfl, rfl⟩
            generalize cmpQ x (mxP f (ps.take k)) = kq at HCx hcq
            by_cases hkq : 0 < kq
            · have hm2 := Lib.hid (hmn.out x (by rw [hms2.out, if_pos (hcq.out.1 hkq)]))
              generalize mxP f (ps.take k) = M at *
              generalize x.num = xn at *
              generalize (x.den : Int) = xd at *
              have hkd : decide (0 < kq) = true := decide_eq_true hkq
              go_wp2_with fail
              (with_reducible refine (HCx.out _).mono ?_); rintro _ Z ⟨rfl, hbz⟩
              have hB5 := Lib.hid (hB5.out.trans (hbz.mono hB5.out.size))
              have bB5 := bB5.below hbz bB5.lt
              have bS5 := bS5.below hbz bS5.lt
              have bR5 := bR5.below hbz bR5.lt
              have hbx := hbx.below hbz hbx.lt
              have hP5 := Lib.hid (cl_isP _ ps _ _ hP5.out hbz)
              clear x0 x1 kX q0 q1 qf0 qf1 kQ hbz
              have x0 := hbx.cell 0
              have x1 := hbx.cell 1
              have kX := hbx.lt
              have q0 := bB5.cell 0
              have q1 := bB5.cell 1
              have qf0 := bB5.frozen 0
              have qf1 := bB5.frozen 1
              have kQ := bB5.lt
              have bB8 := Lib.hid (bB5.set2 (.int .i64 xn) (.int .i64 xd))
              have bS8 := Lib.hid ((bS5.far (p := ⟨w1.heap.size, 0, none⟩) (by first | omega | (simp; omega)) (.int .i64 xn)).far (p := ⟨w1.heap.size, 1, none⟩) (by first | omega | (simp; omega)) (.int .i64 xd))
              have bR8 := Lib.hid ((bR5.far (p := ⟨w1.heap.size, 0, none⟩) (by first | omega | (simp; omega)) (.int .i64 xn)).far (p := ⟨w1.heap.size, 1, none⟩) (by first | omega | (simp; omega)) (.int .i64 xd))
              have hP8 := Lib.hid (isP_far2 (B := w1.heap.size) hP5.out (by omega) (.int .i64 xn) (.int .i64 xd))
              have hB8 := Lib.hid ((hB5.out.setCell (p := ⟨w1.heap.size, 0, none⟩) (by first | omega | (simp; omega)) (.int .i64 xn)).setCell (p := ⟨w1.heap.size, 1, none⟩) (by first | omega | (simp; omega)) (.int .i64 xd))
              go_wp2_with fail
              go_roundw
              case rel => exact ⟨k + 1, xn, xd, by omega, by go_num, hal.out, fun _ => hm2.out, bB8.out, bS8.out, bR8.out, hP8.out, hB8.out⟩
              case measure => simp [intOf]; omega
            · have hm2 := Lib.hid (hmn.out (mxP f (ps.take k)) (by rw [hms2.out, if_neg (fun h => hkq (hcq.out.2 h))]))
              generalize x.num = xn at *
              generalize (x.den : Int) = xd at *
              obtain ⟨Mn, hMn⟩ : ∃ z, (mxP f (ps.take k)).num = z := ⟨_, rfl⟩
              obtain ⟨Md, hMd⟩ : ∃ z, ((mxP f (ps.take k)).den : Int) = z := ⟨_, rfl⟩
              rw [hMn] at HCx hm2 q0 bB5
              rw [hMd] at HCx hm2 q1 bB5
              clear hMn hMd
              have hkd : decide (0 < kq) = false := decide_eq_false hkq
              go_wp2_with fail
              (with_reducible refine (HCx.out _).mono ?_); rintro _ Z ⟨rfl, hbz⟩
              have hB5 := Lib.hid (hB5.out.trans (hbz.mono hB5.out.size))
              have bB5 := Lib.hid (bB5.below hbz bB5.lt)
              have bS5 := Lib.hid (bS5.below hbz bS5.lt)
              have bR5 := Lib.hid (bR5.below hbz bR5.lt)
              have hP5 := Lib.hid (cl_isP _ ps _ _ hP5.out hbz)
              clear x0 x1 kX q0 q1 qf0 qf1 kQ hbz
              go_wp2_with fail
              go_roundw
              case rel => exact ⟨k + 1, Mn, Md, by omega, by go_num, hal.out, fun _ => hm2.out, bB5.out, bS5.out, bR5.out, hP5.out, hB5.out⟩
              case measure => simp [intOf]; omega
    · obtain rfl : k = ps.length := by omega
      have hpos : 0 < ps.length := by
        have := (List.getElem?_eq_some_iff.1 hp0.out).1
        omega
      obtain ⟨rfl, rfl⟩ := hmx.out hpos
      have hall' := hall.out
      rw [List.take_length] at hall'
      have hend : Hid (res = ((mxP f ps).num, ((mxP f ps).den : Int), 0)) := by unfold Hid; rw [hspx.out, greatP, if_pos hall']; rfl
      rw [List.take_length] at bB
      generalize (mxP f ps).num = xn at *
      generalize ((mxP f ps).den : Int) = xd at *
      have q0 := bB.out.cell 0
      have q1 := bB.out.cell 1
      have kQ := bB.out.lt
      have r0 := bR.out.cell 0
      have r1 := bR.out.cell 1
      have rf0 := bR.out.frozen 0
      have rf1 := bR.out.frozen 1
      have kR := bR.out.lt
      have hBe := Lib.hid ((hB.out.setCell (p := ⟨w.heap.size + 1, 0, none⟩) (by simp) (.int .i64 xn)).setCell (p := ⟨w.heap.size + 1, 1, none⟩) (by simp) (.int .i64 xd))
      clear hall hmx hall'
      go_wp2_with fail
      refine bodyPost_ret (v := ratV (xn, xd, 0)) (by simp [results, Tryz.results27, go_sem, ratV, r0, r1]) rfl ⟨by rw [hend.out], hBe.out⟩
end Go.Proofs.YtbncfknjgldcbaaGreat
