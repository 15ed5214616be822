/- Merged texts: CMoLaw. -/
import Derived.Test.YtcfbccdicgeddaaGreatM26
/- CalculusMore returns true. -/
namespace Go.Proofs.YtcfbccdicgeddaaGreat.MoLaw
open Go.RowKit Go.Joins Go.Shelf Go.Sort Num Mx

theorem _root_.Go.Proofs.YtcfbccdicgeddaaGreat.Kept.re {w W : World} {l : List (World → Prop)} (k : Kept w l W) : Kept W l W := ⟨Below.refl _ _, k.h⟩
theorem wrap_i64 {z : Int} (h : -1073741824 ≤ z ∧ z ≤ 1073741824) : IntKind.i64.wrap z = z := by
  unfold IntKind.wrap
  simp [IntKind.signed, IntKind.bits]
  omega
set_option maxRecDepth 100000 in
set_option maxHeartbeats 8000000 in
theorem walk (A : Option Addr) (cap : Nat) (zs : List Int) (B : Option Addr) (cap2 : Nat) (us : List Int) (r d e : Int) (hr : 0 ≤ r ∧ r ≤ 255) (hd : 0 ≤ d ∧ d ≤ 255) (he : 0 ≤ e ∧ e ≤ 255) (w : World) (hz : Nums w A zs) (hu : Nums w B us) :
    Calls Tryz.prog 7 #[.slice A zs.length cap, .slice B us.length cap2, .int .u8 r, .int .u8 d, .int .u8 e] w fun e w' => e = .returned (.bool true) ∧ Below w.heap.size w w' := by
  have HS := Lib.hid (small_yes A cap zs w w hz (Below.refl _ _))
  have HT : Hid (∀ W : World, Below w.heap.size w W → _) := fun W hb => small_yes B cap2 us w W hu hb
  have HW : Hid (∀ W : World, _) := fun W => Aw3.walk W
  have HN : Hid (∀ (n d : Int) (W : World), _) := fun n d W => num3_any n d W
  have hca := small_ne zs
  have hcb := small_ne us
  have hsa := small_sm zs
  have hsb := small_sm us
  have ha1 := small_len zs
  have hb1 := small_len us
  clear hz hu
  generalize small zs = a at HS hca hsa ha1
  generalize small us = b at HT hcb hsb hb1
  have ha : 1 ≤ a.length ∧ a.length ≤ 32 := by omega
  have hb0 : 1 ≤ b.length ∧ b.length ≤ 32 := by omega
  obtain ⟨na, hna⟩ : ∃ n, a.length = n := ⟨_, rfl⟩
  obtain ⟨nb, hnb⟩ : ∃ n, b.length = n := ⟨_, rfl⟩
  rw [hna] at HS
  rw [hnb] at HT
  obtain ⟨P, hP⟩ : ∃ P, 1 + r % 160 = P := ⟨_, rfl⟩
  obtain ⟨E, hE⟩ : ∃ E, 8 + e % 8 = E := ⟨_, rfl⟩
  obtain ⟨D, hDe⟩ : ∃ D, d + e = D := ⟨_, rfl⟩
  have hP1 : 1 ≤ P ∧ P ≤ 160 := by omega
  have hE1 : 8 ≤ E ∧ E ≤ 15 := by omega
  have hD1 : 0 ≤ D ∧ D ≤ 510 := by omega
  obtain ⟨fp, p0⟩ := rate_fit hP1 (e := 8) (by decide)
  obtain ⟨fq, q0⟩ := rate_fit hP1 hE1
  have HP : Hid (∀ W : World, _) := fun W => make_w P 8 (by omega) (by decide) W
  have HQ : Hid (∀ W : World, _) := fun W => make_w P E (by omega) (by omega) W
  have fd : Fit (d : Rat) := int_fit (by omega)
  have fD : Fit (D : Rat) := int_fit (by omega)
  have pd : 0 ≤ (d : Rat) := Rat.intCast_le_intCast.2 hd.1
  have pD : 0 ≤ (D : Rat) := Rat.intCast_le_intCast.2 hD1.1
  have s1 := sml_one hca hsa
  have s2 := sml_two hca hcb hsa hsb
  have rl := rate_less (P := P) (E := E) (by omega) hE1.1
  have g0 := good_delay s1 (by simp) s2 (by simp) hP1 (E := 8) (E' := 8) (by decide) (by decide) (L := d) (L' := d) (by omega) (by omega) (fun z hz => tot_more hcb z hz) (sum_more hcb) Rat.le_refl (Int.le_refl _)
  have g1 := good_delay s1 (by simp) s1 (by simp) hP1 (E := 8) (E' := 8) (by decide) (by decide) (L := d) (L' := D) (by omega) hD1 (fun z hz => Rat.le_refl) Rat.le_refl Rat.le_refl (by omega)
  have g2 := good_delay s1 (by simp) s1 (by simp) hP1 (E := 8) (E' := E) (by decide) hE1 (L := d) (L' := d) (by omega) (by omega) (fun z hz => Rat.le_refl) Rat.le_refl rl (Int.le_refl _)
  have k0 := good_back s1 (by simp) s2 (by simp) hP1 (E := 8) (E' := 8) (by decide) (by decide) (L := d) (L' := d) (by omega) (by omega) (fun z hz => tot_more hcb z hz) (sum_more hcb) Rat.le_refl (Int.le_refl _) fd fd
  have k1 := good_back s1 (by simp) s1 (by simp) hP1 (E := 8) (E' := 8) (by decide) (by decide) (L := d) (L' := D) (by omega) hD1 (fun z hz => Rat.le_refl) Rat.le_refl Rat.le_refl (by omega) fd fD
  have k2 := good_back s1 (by simp) s1 (by simp) hP1 (E := 8) (E' := E) (by decide) hE1 (L := d) (L' := d) (by omega) (by omega) (fun z hz => Rat.le_refl) Rat.le_refl rl (Int.le_refl _) fd fd
  -- the answers: v0 .. v3 of Delay, u0 .. u3 of Backlog
  obtain ⟨⟨v0n, v0d, v0e⟩, hv0⟩ : ∃ t, delayV [a] (Rat.divInt P 8) (d : Rat) = t := ⟨_, rfl⟩
  obtain ⟨⟨v1n, v1d, v1e⟩, hv1⟩ : ∃ t, delayV [a, b] (Rat.divInt P 8) (d : Rat) = t := ⟨_, rfl⟩
  obtain ⟨⟨v2n, v2d, v2e⟩, hv2⟩ : ∃ t, delayV [a] (Rat.divInt P 8) (D : Rat) = t := ⟨_, rfl⟩
  obtain ⟨⟨v3n, v3d, v3e⟩, hv3⟩ : ∃ t, delayV [a] (Rat.divInt P E) (d : Rat) = t := ⟨_, rfl⟩
  obtain ⟨⟨u0n, u0d, u0e⟩, hu0⟩ : ∃ t, backV [a] (Rat.divInt P 8) (d : Rat) fd = t := ⟨_, rfl⟩
  obtain ⟨⟨u1n, u1d, u1e⟩, hu1⟩ : ∃ t, backV [a, b] (Rat.divInt P 8) (d : Rat) fd = t := ⟨_, rfl⟩
  obtain ⟨⟨u2n, u2d, u2e⟩, hu2⟩ : ∃ t, backV [a] (Rat.divInt P 8) (D : Rat) fD = t := ⟨_, rfl⟩
  obtain ⟨⟨u3n, u3d, u3e⟩, hu3⟩ : ∃ t, backV [a] (Rat.divInt P E) (d : Rat) fd = t := ⟨_, rfl⟩
  rw [hv0, hv1] at g0
  rw [hv0, hv2] at g1
  rw [hv0, hv3] at g2
  rw [hu0, hu1] at k0
  rw [hu0, hu2] at k1
  rw [hu0, hu3] at k2
  have D0 : Hid (∀ (A : Option Addr) (cap : Nat) (W : World), isL A [a] W → _) := fun A cap W hI => delay_w (by simp) fp p0 fd pd 1 rfl _ _ d 1 _ _ _ rfl rfl rfl rfl hv0 A cap W hI
  have D1 : Hid (∀ (A : Option Addr) (cap : Nat) (W : World), isL A [a, b] W → _) := fun A cap W hI => delay_w (by simp) fp p0 fd pd 2 rfl _ _ d 1 _ _ _ rfl rfl rfl rfl hv1 A cap W hI
  have D2 : Hid (∀ (A : Option Addr) (cap : Nat) (W : World), isL A [a] W → _) := fun A cap W hI => delay_w (by simp) fp p0 fD pD 1 rfl _ _ D 1 _ _ _ rfl rfl rfl rfl hv2 A cap W hI
  have D3 : Hid (∀ (A : Option Addr) (cap : Nat) (W : World), isL A [a] W → _) := fun A cap W hI => delay_w (by simp) fq q0 fd pd 1 rfl _ _ d 1 _ _ _ rfl rfl rfl rfl hv3 A cap W hI
  have B0 : Hid (∀ (A : Option Addr) (cap : Nat) (W : World), isL A [a] W → _) := fun A cap W hI => back_w (by simp) fp p0 fd pd 1 rfl _ _ d 1 _ _ _ rfl rfl rfl rfl hu0 A cap W hI
  have B1 : Hid (∀ (A : Option Addr) (cap : Nat) (W : World), isL A [a, b] W → _) := fun A cap W hI => back_w (by simp) fp p0 fd pd 2 rfl _ _ d 1 _ _ _ rfl rfl rfl rfl hu1 A cap W hI
  have B2 : Hid (∀ (A : Option Addr) (cap : Nat) (W : World), isL A [a] W → _) := fun A cap W hI => back_w (by simp) fp p0 fD pD 1 rfl _ _ D 1 _ _ _ rfl rfl rfl rfl hu2 A cap W hI
  have B3 : Hid (∀ (A : Option Addr) (cap : Nat) (W : World), isL A [a] W → _) := fun A cap W hI => back_w (by simp) fq q0 fd pd 1 rfl _ _ d 1 _ _ _ rfl rfl rfl rfl hu3 A cap W hI
  clear hv0 hv1 hv2 hv3 hu0 hu1 hu2 hu3 s1 s2 rl
  have hwd : IntKind.i64.wrap d = d := wrap_i64 (by omega)
  have hP := Lib.hid hP
  have hE := Lib.hid hE
  have hDe := Lib.hid hDe
  have Ha := Lib.hid ha
  have Hb0 := Lib.hid hb0
  obtain ⟨p, hpd⟩ : ∃ p, Rat.divInt P 8 = p := ⟨_, rfl⟩
  obtain ⟨q, hqd⟩ : ∃ q, Rat.divInt P E = q := ⟨_, rfl⟩
  simp only [hpd, hqd] at *
  clear hpd hqd
  have K := Kept.start w
  go_enter Tryz.func7, Tryz.ntmps7
  go_wp2_with fail
  (with_reducible refine (HS.out).mono ?_); rintro e U1 ⟨Aa, ca, rfl, hi, hb⟩
  have HT1 := HT.out _ hb
  replace K := (K.keep hb).add (cl_isC Aa ca a) hi
  clear hi hb HS HT
  go_wp2_with fail
  (with_reducible refine (HT1).mono ?_); rintro e U2 ⟨Ab, cb, rfl, hi, hb⟩
  replace K := (K.keep hb).add (cl_isC Ab cb b) hi
  clear hi hb HT1
  have hPo := hP.out
  have hEo := hE.out
  have hDo := hDe.out
  go_wp2_with fail
  (with_reducible refine (HP.out _).mono ?_); rintro e U3 ⟨rfl, hb⟩
  replace K := (K.keep hb).box (p.num) (p.den)
  clear hb
  go_wp2_with fail
  (with_reducible refine (HQ.out _).mono ?_); rintro e U4 ⟨rfl, hb⟩
  replace K := (K.keep hb).box (q.num) (q.den)
  clear hb
  have p0 := (K.get 1 rfl).c0
  have p1 := (K.get 1 rfl).c1
  have l13 := (K.get 1 rfl).lt
  go_wp2_with fail
  generalize hW0 : U4.alloc (.cells #[.int .i64 q.num, .int .i64 (q.den : Int)] 24) = W0 at *
  generalize U3.heap.size = g13 at *
  generalize U4.heap.size = g15 at *
  refine wp_region_inv (Inv := fun Lb a W => ∃ (b0 b1 b2 b3 b4 b5 b6 : Bool) (G5 : Nat), Lb = #[b0, b1, b2, b3, b4, b5, b6] ∧ a = { tmps := #[Value.slice A zs.length cap, Value.slice B us.length cap2, Value.int IntKind.u8 r, Value.int IntKind.u8 d, Value.int IntKind.u8 e, undef, undef, undef, undef, undef, Value.bool false, Value.slice Aa na ca, Value.slice Ab nb cb, Value.pointer (some ⟨g13, 0, none⟩), Value.int IntKind.i64 0, Value.pointer (some ⟨g15, 0, none⟩), Value.int IntKind.i64 0, (bif b5 then .pointer (some ⟨G5, 0, none⟩) else undef), undef, undef, undef, undef, undef, undef, undef, undef, undef, undef, Value.slice A zs.length cap, Value.slice Aa na ca, Value.slice B us.length cap2, Value.slice Ab nb cb, Value.tuple #[Value.agg #[Value.int IntKind.i64 p.num, Value.int IntKind.i64 ↑p.den], Value.int IntKind.i64 0], Value.int IntKind.u8 r, Value.int IntKind.i64 r, Value.int IntKind.i64 (r % 160), Value.int IntKind.i64 P, Value.tuple #[Value.agg #[Value.int IntKind.i64 p.num, Value.int IntKind.i64 ↑p.den], Value.int IntKind.i64 0], Value.agg #[Value.int IntKind.i64 p.num, Value.int IntKind.i64 ↑p.den], Value.int IntKind.i64 0, Value.tuple #[Value.agg #[Value.int IntKind.i64 q.num, Value.int IntKind.i64 ↑q.den], Value.int IntKind.i64 0], Value.int IntKind.u8 r, Value.int IntKind.i64 r, Value.int IntKind.i64 (r % 160), Value.int IntKind.i64 P, Value.int IntKind.u8 e, Value.int IntKind.i64 e, Value.int IntKind.i64 (e % 8), Value.int IntKind.i64 E, Value.tuple #[Value.agg #[Value.int IntKind.i64 q.num, Value.int IntKind.i64 ↑q.den], Value.int IntKind.i64 0], Value.agg #[Value.int IntKind.i64 q.num, Value.int IntKind.i64 ↑q.den], Value.int IntKind.i64 0, (bif b0 then .agg #[.int .i64 p.num, .int .i64 (p.den : Int)] else undef), (bif b1 then .int .u8 d else undef), (bif b2 then .int .i64 d else undef), (bif b3 then .agg #[.int .i64 d, .int .i64 1] else undef), (bif b4 then .agg #[.int .i64 p.num, .int .i64 (p.den : Int), .int .i64 d, .int .i64 1] else undef), undef, undef, undef, undef, undef, undef, undef, undef, undef, undef, undef, undef, undef, undef, undef, undef, undef, undef, undef, undef, undef, undef, undef, undef, undef, undef, undef, undef, undef, undef, undef, undef, undef, undef, undef, undef, undef, undef, undef, undef, undef, undef, undef, undef, undef, undef, undef, undef, undef, undef, undef, undef, undef, undef, undef, undef, undef, undef, undef, undef, undef, undef, undef, undef, undef, undef, undef, undef, undef, undef, undef, undef, undef, undef, undef, undef, undef, undef, undef, undef, undef, undef, undef, undef, undef, undef, undef, undef, undef, undef], defers := [] } ∧ (b6 = true → b5 = true) ∧ Below W0.heap.size W0 W ∧ (b5 = true → W0.heap.size ≤ G5 ∧ G5 < W.heap.size ∧ (b6 = false → BoxN W G5 26 #[.int .i64 0, .int .i64 0, .int .i64 0, .int .i64 0]) ∧ (b6 = true → BoxN W G5 26 #[.int .i64 p.num, .int .i64 (p.den : Int), .int .i64 d, .int .i64 1]))) (by kernel_rfl) (down_of (by decide +kernel)) ?start ?size ?done ?step
  case start => exact ⟨false, false, false, false, false, false, false, 0, rfl, rfl, by simp, (Below.refl _ _).drew, by simp⟩
  case size =>
    rintro Lb aR W ⟨b0, b1, b2, b3, b4, b5, b6, G5, rfl, -⟩
    rfl
  case step =>
    rintro Lb aR W i o ⟨b0, b1, b2, b3, b4, b5, b6, G5, rfl, rfl, p6, f0, f1⟩ ho hl' hdep
    have hi' : i < 7 := (Array.getElem?_eq_some_iff.1 ho).1
    have hi2 : i = 0 ∨ i = 1 ∨ i = 2 ∨ i = 3 ∨ i = 4 ∨ i = 5 ∨ i = 6 := by omega
    clear hi'
    replace p6 := Lib.hid p6
    replace f0 := Lib.hid f0
    replace f1 := Lib.hid f1
    rcases hi2 with rfl | rfl | rfl | rfl | rfl | rfl | rfl
    · cases ho
      obtain rfl : b0 = false := hl'
      clear hdep
      have c0 := (f0.out.cell (l13)).trans p0
      have c1 := (f0.out.cell (l13)).trans p1
      refine wpOp_step rfl (fun K hK => ?_)
      go_simp
      refine hK _ _ ?_; clear hK K
      exact ⟨true, b1, b2, b3, b4, b5, b6, G5, rfl, rfl, p6.out, f0.out, f1.out⟩
    · cases ho
      obtain rfl : b1 = false := hl'
      clear hdep
      refine wpOp_step rfl (fun K hK => ?_)
      go_simp
      refine hK _ _ ?_; clear hK K
      exact ⟨b0, true, b2, b3, b4, b5, b6, G5, rfl, rfl, p6.out, f0.out, f1.out⟩
    · cases ho
      obtain rfl : b2 = false := hl'
      obtain rfl : b1 = true := hdep ⟨1, .data⟩ (by simp) rfl
      clear hdep
      refine wpOp_step rfl (fun K hK => ?_)
      simp only [cond_true]
      go_simp
      refine hK _ _ ?_; clear hK K
      exact ⟨b0, true, true, b3, b4, b5, b6, G5, rfl, rfl, p6.out, f0.out, f1.out⟩
    · cases ho
      obtain rfl : b3 = false := hl'
      obtain rfl : b2 = true := hdep ⟨2, .data⟩ (by simp) rfl
      clear hdep
      refine wpOp_step rfl (fun K hK => ?_)
      simp only [cond_true]
      go_simp
      (with_reducible refine (HN.out _ _ _).mono ?_); rintro e w4 ⟨rfl, hb⟩
      refine hK _ _ ?_; clear hK K
      exact ⟨b0, b1, true, true, b4, b5, b6, G5, rfl, rfl, p6.out, f0.out.trans (hb.mono f0.out.size), fun h => ⟨(f1.out h).1, Nat.lt_of_lt_of_le (f1.out h).2.1 hb.size, fun e => ((f1.out h).2.2.1 e).below hb (f1.out h).2.1, fun e => ((f1.out h).2.2.2 e).below hb (f1.out h).2.1⟩⟩
    · cases ho
      obtain rfl : b4 = false := hl'
      obtain rfl : b0 = true := hdep ⟨0, .data⟩ (by simp) rfl
      obtain rfl : b3 = true := hdep ⟨3, .data⟩ (by simp) rfl
      clear hdep
      refine wpOp_step rfl (fun K hK => ?_)
      simp only [cond_true]
      go_simp
      refine hK _ _ ?_; clear hK K
      exact ⟨true, b1, b2, true, true, b5, b6, G5, rfl, rfl, p6.out, f0.out, f1.out⟩
    · cases ho
      obtain rfl : b5 = false := hl'
      clear hdep
      obtain rfl : b6 = false := by cases b6 with | false => rfl | true => exact absurd (p6.out rfl) (by simp)
      refine wpOp_step rfl (fun K hK => ?_)
      go_simp
      refine hK _ _ ?_; clear hK K
      exact ⟨b0, b1, b2, b3, b4, true, false, W.heap.size, rfl, rfl, by simp, f0.out.alloc f0.out.size _, fun _ => ⟨f0.out.size, by simp, fun _ => BoxN.new W 26 #[.int .i64 0, .int .i64 0, .int .i64 0, .int .i64 0], by simp⟩⟩
    · cases ho
      obtain rfl : b6 = false := hl'
      obtain rfl : b5 = true := hdep ⟨5, .data⟩ (by simp) rfl
      obtain rfl : b4 = true := hdep ⟨4, .data⟩ (by simp) rfl
      clear hdep
      obtain ⟨hle, hlt, hbz, -⟩ := f1.out rfl
      have bS := hbz rfl
      clear hbz
      have z0 := bS.cell 0
      have y0 := bS.frozen 0
      have z1 := bS.cell 1
      have y1 := bS.frozen 1
      have z2 := bS.cell 2
      have y2 := bS.frozen 2
      have z3 := bS.cell 3
      have y3 := bS.frozen 3
      refine wpOp_step rfl (fun K hK => ?_)
      simp only [cond_true]
      go_simp
      refine hK _ _ ?_; clear hK K
      exact ⟨b0, b1, b2, b3, true, true, true, G5, rfl, rfl, by simp, ((((f0.out.setCell (p := ⟨G5, 0, none⟩) hle (.int .i64 p.num)).setCell (p := ⟨G5, 1, none⟩) hle (.int .i64 (p.den : Int))).setCell (p := ⟨G5, 2, none⟩) hle (.int .i64 d)).setCell (p := ⟨G5, 3, none⟩) hle (.int .i64 1)), fun _ => ⟨hle, by simpa using hlt, by simp, fun _ => bS.set4 (.int .i64 p.num) (.int .i64 (p.den : Int)) (.int .i64 d) (.int .i64 1)⟩⟩
  case done =>
    rintro Lb aR W ⟨j0, j1, j2, j3, j4, j5, j6, G5, rfl, rfl, -, f0, f1⟩ hall
    obtain rfl : j0 = true := hall 0 (by decide)
    obtain rfl : j1 = true := hall 1 (by decide)
    obtain rfl : j2 = true := hall 2 (by decide)
    obtain rfl : j3 = true := hall 3 (by decide)
    obtain rfl : j4 = true := hall 4 (by decide)
    obtain rfl : j5 = true := hall 5 (by decide)
    obtain rfl : j6 = true := hall 6 (by decide)
    clear hall
    obtain ⟨-, -, -, hb17⟩ := f1 rfl
    replace hb17 := hb17 rfl
    replace K := (K.keep f0).add (cl_box G5 _ _) hb17
    clear f0 f1 hb17 p0 p1 l13 hW0
    simp only [cond_true]
    obtain ⟨W1, hW1⟩ : ∃ Y, Y = W := ⟨_, rfl⟩
    obtain ⟨g17, hg17⟩ : ∃ g, g = G5 := ⟨_, rfl⟩
    subst hW1 hg17
    have s0 := (K.get 0 rfl).cell 0
    have s1 := (K.get 0 rfl).cell 1
    have s2 := (K.get 0 rfl).cell 2
    have s3 := (K.get 0 rfl).cell 3
    have l17 := (K.get 0 rfl).lt
    go_wp2_with fail
    refine wp_region_inv (Inv := fun Lb a W => ∃ (b0 b1 b2 b3 b4 b5 : Bool) (G2 : Nat) (G3 : Nat), Lb = #[b0, b1, b2, b3, b4, b5] ∧ a = { tmps := #[Value.slice A zs.length cap, Value.slice B us.length cap2, Value.int IntKind.u8 r, Value.int IntKind.u8 d, Value.int IntKind.u8 e, undef, undef, undef, undef, undef, Value.bool false, Value.slice Aa na ca, Value.slice Ab nb cb, Value.pointer (some ⟨g13, 0, none⟩), Value.int IntKind.i64 0, Value.pointer (some ⟨g15, 0, none⟩), Value.int IntKind.i64 0, Value.pointer (some ⟨g17, 0, none⟩), (bif b2 then .pointer (some ⟨G2, 0, none⟩) else undef), (bif b3 then .pointer (some ⟨G3, 0, none⟩) else undef), undef, undef, undef, undef, undef, undef, undef, undef, Value.slice A zs.length cap, Value.slice Aa na ca, Value.slice B us.length cap2, Value.slice Ab nb cb, Value.tuple #[Value.agg #[Value.int IntKind.i64 p.num, Value.int IntKind.i64 ↑p.den], Value.int IntKind.i64 0], Value.int IntKind.u8 r, Value.int IntKind.i64 r, Value.int IntKind.i64 (r % 160), Value.int IntKind.i64 P, Value.tuple #[Value.agg #[Value.int IntKind.i64 p.num, Value.int IntKind.i64 ↑p.den], Value.int IntKind.i64 0], Value.agg #[Value.int IntKind.i64 p.num, Value.int IntKind.i64 ↑p.den], Value.int IntKind.i64 0, Value.tuple #[Value.agg #[Value.int IntKind.i64 q.num, Value.int IntKind.i64 ↑q.den], Value.int IntKind.i64 0], Value.int IntKind.u8 r, Value.int IntKind.i64 r, Value.int IntKind.i64 (r % 160), Value.int IntKind.i64 P, Value.int IntKind.u8 e, Value.int IntKind.i64 e, Value.int IntKind.i64 (e % 8), Value.int IntKind.i64 E, Value.tuple #[Value.agg #[Value.int IntKind.i64 q.num, Value.int IntKind.i64 ↑q.den], Value.int IntKind.i64 0], Value.agg #[Value.int IntKind.i64 q.num, Value.int IntKind.i64 ↑q.den], Value.int IntKind.i64 0, Value.agg #[Value.int IntKind.i64 p.num, Value.int IntKind.i64 ↑p.den], Value.int IntKind.u8 d, Value.int IntKind.i64 d, Value.agg #[Value.int IntKind.i64 d, Value.int IntKind.i64 1], Value.agg #[Value.int IntKind.i64 p.num, Value.int IntKind.i64 ↑p.den, Value.int IntKind.i64 d, Value.int IntKind.i64 1], (bif b0 then .agg #[.int .i64 p.num, .int .i64 (p.den : Int), .int .i64 d, .int .i64 1] else undef), (bif b1 then .agg #[.int .i64 p.num, .int .i64 (p.den : Int), .int .i64 d, .int .i64 1] else undef), undef, undef, undef, undef, undef, undef, undef, undef, undef, undef, undef, undef, undef, undef, undef, undef, undef, undef, undef, undef, undef, undef, undef, undef, undef, undef, undef, undef, undef, undef, undef, undef, undef, undef, undef, undef, undef, undef, undef, undef, undef, undef, undef, undef, undef, undef, undef, undef, undef, undef, undef, undef, undef, undef, undef, undef, undef, undef, undef, undef, undef, undef, undef, undef, undef, undef, undef, undef, undef, undef, undef, undef, undef, undef, undef, undef, undef, undef, undef, undef, undef, undef, undef, undef, undef, undef, undef, undef], defers := [] } ∧ (b4 = true → b2 = true) ∧ (b5 = true → b3 = true) ∧ Below W1.heap.size W1 W ∧ (b2 = true → W1.heap.size ≤ G2 ∧ G2 < W.heap.size ∧ (b4 = false → BoxN W G2 26 #[.int .i64 0, .int .i64 0, .int .i64 0, .int .i64 0]) ∧ (b4 = true → BoxN W G2 26 #[.int .i64 p.num, .int .i64 (p.den : Int), .int .i64 d, .int .i64 1])) ∧ (b3 = true → W1.heap.size ≤ G3 ∧ G3 < W.heap.size ∧ (b5 = false → BoxN W G3 26 #[.int .i64 0, .int .i64 0, .int .i64 0, .int .i64 0]) ∧ (b5 = true → BoxN W G3 26 #[.int .i64 p.num, .int .i64 (p.den : Int), .int .i64 d, .int .i64 1])) ∧ (b2 = true → b3 = true → G2 ≠ G3)) (by kernel_rfl) (down_of (by decide +kernel)) ?start ?size ?done ?step
    case start => exact ⟨false, false, false, false, false, false, 0, 0, rfl, rfl, by simp, by simp, (Below.refl _ _).drew, by simp, by simp, by simp⟩
    case size =>
      rintro Lb aR W ⟨b0, b1, b2, b3, b4, b5, G2, G3, rfl, -⟩
      rfl
    case step =>
      rintro Lb aR W i o ⟨b0, b1, b2, b3, b4, b5, G2, G3, rfl, rfl, p4, p5, f0, f1, f2, f3⟩ ho hl' hdep
      have hi' : i < 6 := (Array.getElem?_eq_some_iff.1 ho).1
      have hi2 : i = 0 ∨ i = 1 ∨ i = 2 ∨ i = 3 ∨ i = 4 ∨ i = 5 := by omega
      clear hi'
      replace p4 := Lib.hid p4
      replace p5 := Lib.hid p5
      replace f0 := Lib.hid f0
      replace f1 := Lib.hid f1
      replace f2 := Lib.hid f2
      replace f3 := Lib.hid f3
      rcases hi2 with rfl | rfl | rfl | rfl | rfl | rfl
      · cases ho
        obtain rfl : b0 = false := hl'
        clear hdep
        have c0 := (f0.out.cell (l17)).trans s0
        have c1 := (f0.out.cell (l17)).trans s1
        have c2 := (f0.out.cell (l17)).trans s2
        have c3 := (f0.out.cell (l17)).trans s3
        refine wpOp_step rfl (fun K hK => ?_)
        go_simp
        refine hK _ _ ?_; clear hK K
        exact ⟨true, b1, b2, b3, b4, b5, G2, G3, rfl, rfl, p4.out, p5.out, f0.out, f1.out, f2.out, f3.out⟩
      · cases ho
        obtain rfl : b1 = false := hl'
        clear hdep
        have c0 := (f0.out.cell (l17)).trans s0
        have c1 := (f0.out.cell (l17)).trans s1
        have c2 := (f0.out.cell (l17)).trans s2
        have c3 := (f0.out.cell (l17)).trans s3
        refine wpOp_step rfl (fun K hK => ?_)
        go_simp
        refine hK _ _ ?_; clear hK K
        exact ⟨b0, true, b2, b3, b4, b5, G2, G3, rfl, rfl, p4.out, p5.out, f0.out, f1.out, f2.out, f3.out⟩
      · cases ho
        obtain rfl : b2 = false := hl'
        clear hdep
        obtain rfl : b4 = false := by cases b4 with | false => rfl | true => exact absurd (p4.out rfl) (by simp)
        refine wpOp_step rfl (fun K hK => ?_)
        go_simp
        refine hK _ _ ?_; clear hK K
        exact ⟨b0, b1, true, b3, false, b5, W.heap.size, G3, rfl, rfl, by simp, p5.out, f0.out.alloc f0.out.size _, fun _ => ⟨f0.out.size, by simp, fun _ => BoxN.new W 26 #[.int .i64 0, .int .i64 0, .int .i64 0, .int .i64 0], by simp⟩, fun h => ⟨(f2.out h).1, by have := (f2.out h).2.1; simp; omega, fun e => ((f2.out h).2.2.1 e).alloc _, fun e => ((f2.out h).2.2.2 e).alloc _⟩, fun _ h => Nat.ne_of_gt (f2.out h).2.1⟩
      · cases ho
        obtain rfl : b3 = false := hl'
        clear hdep
        obtain rfl : b5 = false := by cases b5 with | false => rfl | true => exact absurd (p5.out rfl) (by simp)
        refine wpOp_step rfl (fun K hK => ?_)
        go_simp
        refine hK _ _ ?_; clear hK K
        exact ⟨b0, b1, b2, true, b4, false, G2, W.heap.size, rfl, rfl, p4.out, by simp, f0.out.alloc f0.out.size _, fun h => ⟨(f1.out h).1, by have := (f1.out h).2.1; simp; omega, fun e => ((f1.out h).2.2.1 e).alloc _, fun e => ((f1.out h).2.2.2 e).alloc _⟩, fun _ => ⟨f0.out.size, by simp, fun _ => BoxN.new W 26 #[.int .i64 0, .int .i64 0, .int .i64 0, .int .i64 0], by simp⟩, fun h _ => Nat.ne_of_lt (f1.out h).2.1⟩
      · cases ho
        obtain rfl : b4 = false := hl'
        obtain rfl : b2 = true := hdep ⟨2, .data⟩ (by simp) rfl
        obtain rfl : b0 = true := hdep ⟨0, .data⟩ (by simp) rfl
        clear hdep
        obtain ⟨hle, hlt, hbz, -⟩ := f1.out rfl
        have bS := hbz rfl
        clear hbz
        have z0 := bS.cell 0
        have y0 := bS.frozen 0
        have z1 := bS.cell 1
        have y1 := bS.frozen 1
        have z2 := bS.cell 2
        have y2 := bS.frozen 2
        have z3 := bS.cell 3
        have y3 := bS.frozen 3
        refine wpOp_step rfl (fun K hK => ?_)
        simp only [cond_true]
        go_simp
        refine hK _ _ ?_; clear hK K
        exact ⟨true, b1, true, b3, true, b5, G2, G3, rfl, rfl, by simp, p5.out, ((((f0.out.setCell (p := ⟨G2, 0, none⟩) hle (.int .i64 p.num)).setCell (p := ⟨G2, 1, none⟩) hle (.int .i64 (p.den : Int))).setCell (p := ⟨G2, 2, none⟩) hle (.int .i64 d)).setCell (p := ⟨G2, 3, none⟩) hle (.int .i64 1)), fun _ => ⟨hle, by simpa using hlt, by simp, fun _ => bS.set4 (.int .i64 p.num) (.int .i64 (p.den : Int)) (.int .i64 d) (.int .i64 1)⟩, fun h => ⟨(f2.out h).1, by simpa using (f2.out h).2.1, fun e => ((((((f2.out h).2.2.1 e).far (p := ⟨G2, 0, none⟩) (Ne.symm (f3.out rfl h)) _).far (p := ⟨G2, 1, none⟩) (Ne.symm (f3.out rfl h)) _).far (p := ⟨G2, 2, none⟩) (Ne.symm (f3.out rfl h)) _).far (p := ⟨G2, 3, none⟩) (Ne.symm (f3.out rfl h)) _), fun e => ((((((f2.out h).2.2.2 e).far (p := ⟨G2, 0, none⟩) (Ne.symm (f3.out rfl h)) _).far (p := ⟨G2, 1, none⟩) (Ne.symm (f3.out rfl h)) _).far (p := ⟨G2, 2, none⟩) (Ne.symm (f3.out rfl h)) _).far (p := ⟨G2, 3, none⟩) (Ne.symm (f3.out rfl h)) _)⟩, f3.out⟩
      · cases ho
        obtain rfl : b5 = false := hl'
        obtain rfl : b3 = true := hdep ⟨3, .data⟩ (by simp) rfl
        obtain rfl : b1 = true := hdep ⟨1, .data⟩ (by simp) rfl
        clear hdep
        obtain ⟨hle, hlt, hbz, -⟩ := f2.out rfl
        have bS := hbz rfl
        clear hbz
        have z0 := bS.cell 0
        have y0 := bS.frozen 0
        have z1 := bS.cell 1
        have y1 := bS.frozen 1
        have z2 := bS.cell 2
        have y2 := bS.frozen 2
        have z3 := bS.cell 3
        have y3 := bS.frozen 3
        refine wpOp_step rfl (fun K hK => ?_)
        simp only [cond_true]
        go_simp
        refine hK _ _ ?_; clear hK K
        exact ⟨b0, true, b2, true, b4, true, G2, G3, rfl, rfl, p4.out, by simp, ((((f0.out.setCell (p := ⟨G3, 0, none⟩) hle (.int .i64 p.num)).setCell (p := ⟨G3, 1, none⟩) hle (.int .i64 (p.den : Int))).setCell (p := ⟨G3, 2, none⟩) hle (.int .i64 d)).setCell (p := ⟨G3, 3, none⟩) hle (.int .i64 1)), fun h => ⟨(f1.out h).1, by simpa using (f1.out h).2.1, fun e => ((((((f1.out h).2.2.1 e).far (p := ⟨G3, 0, none⟩) (f3.out h rfl) _).far (p := ⟨G3, 1, none⟩) (f3.out h rfl) _).far (p := ⟨G3, 2, none⟩) (f3.out h rfl) _).far (p := ⟨G3, 3, none⟩) (f3.out h rfl) _), fun e => ((((((f1.out h).2.2.2 e).far (p := ⟨G3, 0, none⟩) (f3.out h rfl) _).far (p := ⟨G3, 1, none⟩) (f3.out h rfl) _).far (p := ⟨G3, 2, none⟩) (f3.out h rfl) _).far (p := ⟨G3, 3, none⟩) (f3.out h rfl) _)⟩, fun _ => ⟨hle, by simpa using hlt, by simp, fun _ => bS.set4 (.int .i64 p.num) (.int .i64 (p.den : Int)) (.int .i64 d) (.int .i64 1)⟩, f3.out⟩
    case done =>
      rintro Lb aR W ⟨j0, j1, j2, j3, j4, j5, G2, G3, rfl, rfl, -, -, f0, f1, f2, f3⟩ hall
      obtain rfl : j0 = true := hall 0 (by decide)
      obtain rfl : j1 = true := hall 1 (by decide)
      obtain rfl : j2 = true := hall 2 (by decide)
      obtain rfl : j3 = true := hall 3 (by decide)
      obtain rfl : j4 = true := hall 4 (by decide)
      obtain rfl : j5 = true := hall 5 (by decide)
      clear hall
      obtain ⟨hle18, hlt18, -, b18⟩ := f1 rfl
      obtain ⟨hle19, hlt19, -, b19⟩ := f2 rfl
      replace b18 := b18 rfl
      replace b19 := b19 rfl
      have hne := f3 rfl rfl
      have hne' := Ne.symm hne
      have hB := f0
      clear f0 f1 f2 f3 s0 s1 s2 s3
      simp only [cond_true]
      obtain ⟨W2, hW2⟩ : ∃ Y, Y = W := ⟨_, rfl⟩
      obtain ⟨g18, hg18⟩ : ∃ g, g = G2 := ⟨_, rfl⟩
      obtain ⟨g19, hg19⟩ : ∃ g, g = G3 := ⟨_, rfl⟩
      subst hW2 hg18 hg19
      go_wp2_with fail
      (with_reducible refine (HN.out _ _ _).mono ?_); rintro _ W3 ⟨rfl, hb⟩
      have hB3 := hB.trans (hb.mono hB.size)
      replace b18 := b18.below hb b18.lt
      replace b19 := b19.below hb b19.lt
      clear hb hB
      have x2 := b18.cell 2
      have y2 := b18.frozen 2
      have x3 := b18.cell 3
      have y3 := b18.frozen 3
      have z0 := b19.cell 0
      have v0 := b19.frozen 0
      have z1 := b19.cell 1
      have v1 := b19.frozen 1
      have k18 := b18.lt
      have k19 := b19.lt
      have K3 := K.keep hB3
      have hq := (K3.get 1 rfl)
      have q0 := hq.c0
      have q1 := hq.c1
      have lq := Nat.lt_of_lt_of_le (K.get 1 rfl).lt hle18
      have lq2 := Nat.lt_of_lt_of_le (K.get 1 rfl).lt hle19
      have n1 := Nat.ne_of_lt lq
      have n2 := Nat.ne_of_gt lq
      have n3 := Nat.ne_of_lt lq2
      have n4 := Nat.ne_of_gt lq2
      clear hq lq lq2
      have hX := (((hB3.setCell (p := ⟨g18, 2, none⟩) hle18 (.int .i64 D)).setCell (p := ⟨g18, 3, none⟩) hle18 (.int .i64 1)).setCell (p := ⟨g19, 0, none⟩) hle19 (.int .i64 q.num)).setCell (p := ⟨g19, 1, none⟩) hle19 (.int .i64 (q.den : Int))
      have c18 := (((b18.set1 2 (.int .i64 D)).set1 3 (.int .i64 1)).far (p := ⟨g19, 0, none⟩) hne (.int .i64 q.num)).far (p := ⟨g19, 1, none⟩) hne (.int .i64 (q.den : Int))
      have c19 := (((b19.far (p := ⟨g18, 2, none⟩) hne' (.int .i64 D)).far (p := ⟨g18, 3, none⟩) hne' (.int .i64 1)).set1 0 (.int .i64 q.num)).set1 1 (.int .i64 (q.den : Int))
      have KX := Lib.hid (((K.keep hX).add (cl_box g18 _ _) c18).add (cl_box g19 _ _) c19)
      clear hX c18 c19 K K3 hB3 hle18 hle19 hlt18 hlt19
      go_wp2_with fail
      have hsz : ((((W3.setCell ⟨g18, 2, none⟩ (.int .i64 D)).setCell ⟨g18, 3, none⟩ (.int .i64 1)).setCell ⟨g19, 0, none⟩ (.int .i64 q.num)).setCell ⟨g19, 1, none⟩ (.int .i64 (q.den : Int))).heap.size = W3.heap.size := by simp
      have K := KX.out
      clear KX x2 x3 y2 y3 z0 z1 v0 v1 k18 k19 n1 n2 n3 n4 q0 q1 b18 b19
      generalize (((W3.setCell ⟨g18, 2, none⟩ (.int .i64 D)).setCell ⟨g18, 3, none⟩ (.int .i64 1)).setCell ⟨g19, 0, none⟩ (.int .i64 q.num)).setCell ⟨g19, 1, none⟩ (.int .i64 (q.den : Int)) = WX at *
      generalize W3.heap.size = gfn at *
      have hbf := BoxN.new WX 32 #[.func (.func 12) #[] #[], .func (.func 14) #[] #[]]
      rw [hsz] at hbf
      replace K := (K.alloc (.cells #[.func (.func 12) #[] #[], .func (.func 14) #[] #[]] 32)).add (cl_box gfn _ _) hbf
      clear hbf hsz
      generalize WX.alloc (.cells #[.func (.func 12) #[] #[], .func (.func 14) #[] #[]] 32) = WF at *
      have KF := Lib.hid K
      clear K
      go_loopw [76] (fun i wr => ∃ k : Nat, k ≤ 2 ∧ i = .int .i64 ↑k ∧ Below WF.heap.size WF wr) (fun i _ => 2 - (intOf i).toNat)
      case atStart => exact ⟨0, Nat.zero_le _, rfl, Below.refl _ _⟩
      case round =>
        obtain ⟨kk, hk, rfl, hBw⟩ := hrel
        have K := KF.out.re.keep hBw
        have HBw := Lib.hid hBw
        clear hBw
        have hk3 : kk = 0 ∨ kk = 1 ∨ kk = 2 := by omega
        clear hk
        rcases hk3 with rfl | rfl | rfl
        ·   have c0 := (K.get 0 rfl).cell 0
            have s0 := ((K.alloc (.cells #[.slice Aa na ca] 29)).get 3 rfl).cell 0
            have s1 := ((K.alloc (.cells #[.slice Aa na ca] 29)).get 3 rfl).cell 1
            have s2 := ((K.alloc (.cells #[.slice Aa na ca] 29)).get 3 rfl).cell 2
            have s3 := ((K.alloc (.cells #[.slice Aa na ca] 29)).get 3 rfl).cell 3
            go_wp2_with fail
            (with_reducible refine (D0.out _ _ _ (ChLaw.isL_one (by simp) (K.get 7 rfl) Ha.out 29 na hna)).mono ?_); rintro _ V1 ⟨rfl, hb⟩
            clear c0 s0 s1 s2 s3
            replace K := ((K.alloc (.cells #[.slice Aa na ca] 29)).keep hb).box v0n v0d
            clear hb
            have hbz : (V1.alloc (.cells #[.int .i64 v0n, .int .i64 v0d] 24)).heap.size = V1.heap.size + 1 := World.size_alloc _ _
            have e1 := isL.two (K.get 8 rfl) (K.get 7 rfl) Ha.out Hb0.out 29 na nb hna hnb
            rw [hbz] at e1
            replace K := (K.alloc (.cells #[.slice Aa na ca, .slice Ab nb cb] 29)).add (cl_isL _ _) e1
            have s0 := (K.get 5 rfl).cell 0
            have s1 := (K.get 5 rfl).cell 1
            have s2 := (K.get 5 rfl).cell 2
            have s3 := (K.get 5 rfl).cell 3
            have e2 := isL.one (K.get 9 rfl) Ha.out 29 na hna
            rw [World.size_alloc, hbz] at e2
            replace K := (K.alloc (.cells #[.slice Aa na ca] 29)).add (cl_isL _ _) e2
            have x0 := (K.get 5 rfl).cell 0
            have x1 := (K.get 5 rfl).cell 1
            have x2 := (K.get 5 rfl).cell 2
            have x3 := (K.get 5 rfl).cell 3
            have e3 := isL.one (K.get 10 rfl) Ha.out 29 na hna
            rw [World.size_alloc, World.size_alloc, hbz] at e3
            replace K := (K.alloc (.cells #[.slice Aa na ca] 29)).add (cl_isL _ _) e3
            have y0 := (K.get 5 rfl).cell 0
            have y1 := (K.get 5 rfl).cell 1
            have y2 := (K.get 5 rfl).cell 2
            have y3 := (K.get 5 rfl).cell 3
            have e4 := BoxN.new ((((V1.alloc (.cells #[.int .i64 v0n, .int .i64 v0d] 24)).alloc (.cells #[.slice Aa na ca, .slice Ab nb cb] 29)).alloc (.cells #[.slice Aa na ca] 29)).alloc (.cells #[.slice Aa na ca] 29)) 76 #[.slice (some ⟨V1.heap.size + 1, 0, none⟩) 2 2, .int .i64 p.num, .int .i64 (p.den : Int), .int .i64 d, .int .i64 1, .slice (some ⟨V1.heap.size + 1 + 1, 0, none⟩) 1 1, .int .i64 p.num, .int .i64 (p.den : Int), .int .i64 D, .int .i64 1, .slice (some ⟨V1.heap.size + 1 + 1 + 1, 0, none⟩) 1 1, .int .i64 q.num, .int .i64 (q.den : Int), .int .i64 d, .int .i64 1]
            rw [World.size_alloc, World.size_alloc, World.size_alloc, hbz] at e4
            replace K := (K.alloc (.cells #[.slice (some ⟨V1.heap.size + 1, 0, none⟩) 2 2, .int .i64 p.num, .int .i64 (p.den : Int), .int .i64 d, .int .i64 1, .slice (some ⟨V1.heap.size + 1 + 1, 0, none⟩) 1 1, .int .i64 p.num, .int .i64 (p.den : Int), .int .i64 D, .int .i64 1, .slice (some ⟨V1.heap.size + 1 + 1 + 1, 0, none⟩) 1 1, .int .i64 q.num, .int .i64 (q.den : Int), .int .i64 d, .int .i64 1] 76)).add (cl_box _ _ _) e4
            clear e1 e2 e3 e4 hbz
            go_wp2_with fail
            clear s0 s1 s2 s3 x0 x1 x2 x3 y0 y1 y2 y3
            generalize ((((V1.alloc (.cells #[.int .i64 v0n, .int .i64 v0d] 24)).alloc (.cells #[.slice Aa na ca, .slice Ab nb cb] 29)).alloc (.cells #[.slice Aa na ca] 29)).alloc (.cells #[.slice Aa na ca] 29)).alloc (.cells #[.slice (some ⟨V1.heap.size + 1, 0, none⟩) 2 2, .int .i64 p.num, .int .i64 (p.den : Int), .int .i64 d, .int .i64 1, .slice (some ⟨V1.heap.size + 1 + 1, 0, none⟩) 1 1, .int .i64 p.num, .int .i64 (p.den : Int), .int .i64 D, .int .i64 1, .slice (some ⟨V1.heap.size + 1 + 1 + 1, 0, none⟩) 1 1, .int .i64 q.num, .int .i64 (q.den : Int), .int .i64 d, .int .i64 1] 76) = WE at *
            generalize V1.heap.size = gb at *
            have KE := Lib.hid K
            clear K
            go_loopw [103] (fun i wr => ∃ j : Nat, j ≤ 3 ∧ i = .int .i64 ↑j ∧ Below WE.heap.size WE wr) (fun i _ => 3 - (intOf i).toNat)
            case atStart => exact ⟨0, Nat.zero_le _, rfl, Below.refl _ _⟩
            case round =>
              obtain ⟨j, hj, rfl, hBj⟩ := hrel
              have K := KE.out.keep hBj
              have HBj := Lib.hid hBj
              clear hBj
              have hj4 : j = 0 ∨ j = 1 ∨ j = 2 ∨ j = 3 := by omega
              clear hj
              rcases hj4 with rfl | rfl | rfl | rfl
              ·   have c0 := (K.get 0 rfl).cell 0
                  have c1 := (K.get 0 rfl).cell 1
                  have c2 := (K.get 0 rfl).cell 2
                  have c3 := (K.get 0 rfl).cell 3
                  have c4 := (K.get 0 rfl).cell 4
                  go_wp2_with fail
                  have hL := cl_isL _ _ _ _ (K.get 3 rfl) ((Below.refl _ _).alloc (Nat.le_refl _) (.cells #[.slice (some ⟨gb + 1, 0, none⟩) 2 2, .int .i64 p.num, .int .i64 (p.den : Int), .int .i64 d, .int .i64 1] 76))
                  (with_reducible refine (D1.out _ _ _ hL).mono ?_); rintro _ V2 ⟨rfl, hb⟩
                  clear hL c0 c1 c2 c3 c4
                  replace K := ((K.alloc (.cells #[.slice (some ⟨gb + 1, 0, none⟩) 2 2, .int .i64 p.num, .int .i64 (p.den : Int), .int .i64 d, .int .i64 1] 76)).keep hb).box v1n v1d
                  have hBn := Lib.hid (HBj.out.trans ((((Below.refl _ _).alloc (Nat.le_refl _) (.cells #[.slice (some ⟨gb + 1, 0, none⟩) 2 2, .int .i64 p.num, .int .i64 (p.den : Int), .int .i64 d, .int .i64 1] 76)).trans (hb.mono (by simp))).mono HBj.out.size))
                  replace hBn := Lib.hid (hBn.out.alloc hBn.out.size (.cells #[.int .i64 v1n, .int .i64 v1d] 24))
                  clear hb
                  simp only [Mx.Good, Prod.mk.injEq] at g0
                  rcases g0 with ⟨rfl, rfl⟩ | ⟨rfl, rfl⟩ | ⟨mm, mk, ⟨fm, fk, hmk⟩, ⟨rfl, rfl, rfl⟩, rfl, rfl, rfl⟩
                  · go_wp2_with fail
                    go_roundw
                    case rel => exact ⟨1, by decide, by go_num, hBn.out⟩
                    case measure => simp [intOf]
                  · go_wp2_with fail
                    go_roundw
                    case rel => exact ⟨1, by decide, by go_num, hBn.out⟩
                    case measure => simp [intOf]
                  · have HC : Hid (∀ W : World, _) := fun W => cmp_r fk fm W
                    have hc : ¬ cmpQ mk mm < 0 := fun h => Rat.not_lt.2 hmk (cmpQ_neg.1 h)
                    generalize cmpQ mk mm = kc at HC hc
                    have s0 := (K.get 0 rfl).c0
                    have s1 := (K.get 0 rfl).c1
                    have t0 := (K.get 5 rfl).c0
                    have t1 := (K.get 5 rfl).c1
                    go_wp2_with fail
                    (with_reducible refine (HC.out _).mono ?_); rintro _ V3 ⟨rfl, hb⟩
                    replace hBn := Lib.hid (hBn.out.trans (hb.b.mono hBn.out.size))
                    clear hb s0 s1 t0 t1 K
                    go_wp2_with fail
                    all_goals first
                      | exact ⟨⟨1, by decide, by go_num, hBn.out⟩, by simp [intOf]⟩
                      | (exfalso; omega)
              ·   have c0 := (K.get 0 rfl).cell 5
                  have c1 := (K.get 0 rfl).cell 6
                  have c2 := (K.get 0 rfl).cell 7
                  have c3 := (K.get 0 rfl).cell 8
                  have c4 := (K.get 0 rfl).cell 9
                  go_wp2_with fail
                  have hL := cl_isL _ _ _ _ (K.get 2 rfl) ((Below.refl _ _).alloc (Nat.le_refl _) (.cells #[.slice (some ⟨gb + 1 + 1, 0, none⟩) 1 1, .int .i64 p.num, .int .i64 (p.den : Int), .int .i64 D, .int .i64 1] 76))
                  (with_reducible refine (D2.out _ _ _ hL).mono ?_); rintro _ V2 ⟨rfl, hb⟩
                  clear hL c0 c1 c2 c3 c4
                  replace K := ((K.alloc (.cells #[.slice (some ⟨gb + 1 + 1, 0, none⟩) 1 1, .int .i64 p.num, .int .i64 (p.den : Int), .int .i64 D, .int .i64 1] 76)).keep hb).box v2n v2d
                  have hBn := Lib.hid (HBj.out.trans ((((Below.refl _ _).alloc (Nat.le_refl _) (.cells #[.slice (some ⟨gb + 1 + 1, 0, none⟩) 1 1, .int .i64 p.num, .int .i64 (p.den : Int), .int .i64 D, .int .i64 1] 76)).trans (hb.mono (by simp))).mono HBj.out.size))
                  replace hBn := Lib.hid (hBn.out.alloc hBn.out.size (.cells #[.int .i64 v2n, .int .i64 v2d] 24))
                  clear hb
                  simp only [Mx.Good, Prod.mk.injEq] at g1
                  rcases g1 with ⟨rfl, rfl⟩ | ⟨rfl, rfl⟩ | ⟨mm, mk, ⟨fm, fk, hmk⟩, ⟨rfl, rfl, rfl⟩, rfl, rfl, rfl⟩
                  · go_wp2_with fail
                    go_roundw
                    case rel => exact ⟨2, by decide, by go_num, hBn.out⟩
                    case measure => simp [intOf]
                  · go_wp2_with fail
                    go_roundw
                    case rel => exact ⟨2, by decide, by go_num, hBn.out⟩
                    case measure => simp [intOf]
                  · have HC : Hid (∀ W : World, _) := fun W => cmp_r fk fm W
                    have hc : ¬ cmpQ mk mm < 0 := fun h => Rat.not_lt.2 hmk (cmpQ_neg.1 h)
                    generalize cmpQ mk mm = kc at HC hc
                    have s0 := (K.get 0 rfl).c0
                    have s1 := (K.get 0 rfl).c1
                    have t0 := (K.get 5 rfl).c0
                    have t1 := (K.get 5 rfl).c1
                    go_wp2_with fail
                    (with_reducible refine (HC.out _).mono ?_); rintro _ V3 ⟨rfl, hb⟩
                    replace hBn := Lib.hid (hBn.out.trans (hb.b.mono hBn.out.size))
                    clear hb s0 s1 t0 t1 K
                    go_wp2_with fail
                    all_goals first
                      | exact ⟨⟨2, by decide, by go_num, hBn.out⟩, by simp [intOf]⟩
                      | (exfalso; omega)
              ·   have c0 := (K.get 0 rfl).cell 10
                  have c1 := (K.get 0 rfl).cell 11
                  have c2 := (K.get 0 rfl).cell 12
                  have c3 := (K.get 0 rfl).cell 13
                  have c4 := (K.get 0 rfl).cell 14
                  go_wp2_with fail
                  have hL := cl_isL _ _ _ _ (K.get 1 rfl) ((Below.refl _ _).alloc (Nat.le_refl _) (.cells #[.slice (some ⟨gb + 1 + 1 + 1, 0, none⟩) 1 1, .int .i64 q.num, .int .i64 (q.den : Int), .int .i64 d, .int .i64 1] 76))
                  (with_reducible refine (D3.out _ _ _ hL).mono ?_); rintro _ V2 ⟨rfl, hb⟩
                  clear hL c0 c1 c2 c3 c4
                  replace K := ((K.alloc (.cells #[.slice (some ⟨gb + 1 + 1 + 1, 0, none⟩) 1 1, .int .i64 q.num, .int .i64 (q.den : Int), .int .i64 d, .int .i64 1] 76)).keep hb).box v3n v3d
                  have hBn := Lib.hid (HBj.out.trans ((((Below.refl _ _).alloc (Nat.le_refl _) (.cells #[.slice (some ⟨gb + 1 + 1 + 1, 0, none⟩) 1 1, .int .i64 q.num, .int .i64 (q.den : Int), .int .i64 d, .int .i64 1] 76)).trans (hb.mono (by simp))).mono HBj.out.size))
                  replace hBn := Lib.hid (hBn.out.alloc hBn.out.size (.cells #[.int .i64 v3n, .int .i64 v3d] 24))
                  clear hb
                  simp only [Mx.Good, Prod.mk.injEq] at g2
                  rcases g2 with ⟨rfl, rfl⟩ | ⟨rfl, rfl⟩ | ⟨mm, mk, ⟨fm, fk, hmk⟩, ⟨rfl, rfl, rfl⟩, rfl, rfl, rfl⟩
                  · go_wp2_with fail
                    go_roundw
                    case rel => exact ⟨3, by decide, by go_num, hBn.out⟩
                    case measure => simp [intOf]
                  · go_wp2_with fail
                    go_roundw
                    case rel => exact ⟨3, by decide, by go_num, hBn.out⟩
                    case measure => simp [intOf]
                  · have HC : Hid (∀ W : World, _) := fun W => cmp_r fk fm W
                    have hc : ¬ cmpQ mk mm < 0 := fun h => Rat.not_lt.2 hmk (cmpQ_neg.1 h)
                    generalize cmpQ mk mm = kc at HC hc
                    have s0 := (K.get 0 rfl).c0
                    have s1 := (K.get 0 rfl).c1
                    have t0 := (K.get 5 rfl).c0
                    have t1 := (K.get 5 rfl).c1
                    go_wp2_with fail
                    (with_reducible refine (HC.out _).mono ?_); rintro _ V3 ⟨rfl, hb⟩
                    replace hBn := Lib.hid (hBn.out.trans (hb.b.mono hBn.out.size))
                    clear hb s0 s1 t0 t1 K
                    go_wp2_with fail
                    all_goals first
                      | exact ⟨⟨3, by decide, by go_num, hBn.out⟩, by simp [intOf]⟩
                      | (exfalso; omega)
              · have hBo := Lib.hid K.b
                go_wp2_with fail
                go_roundw
                case rel => exact ⟨1, by decide, by go_num, hBo.out⟩
                case measure => simp [intOf]
        ·   have c1 := (K.get 0 rfl).cell 1
            have s0 := ((K.alloc (.cells #[.slice Aa na ca] 29)).get 3 rfl).cell 0
            have s1 := ((K.alloc (.cells #[.slice Aa na ca] 29)).get 3 rfl).cell 1
            have s2 := ((K.alloc (.cells #[.slice Aa na ca] 29)).get 3 rfl).cell 2
            have s3 := ((K.alloc (.cells #[.slice Aa na ca] 29)).get 3 rfl).cell 3
            go_wp2_with fail
            (with_reducible refine (B0.out _ _ _ (ChLaw.isL_one (by simp) (K.get 7 rfl) Ha.out 29 na hna)).mono ?_); rintro _ V1 ⟨rfl, hb⟩
            clear c1 s0 s1 s2 s3
            replace K := ((K.alloc (.cells #[.slice Aa na ca] 29)).keep hb).box u0n u0d
            clear hb
            have hbz : (V1.alloc (.cells #[.int .i64 u0n, .int .i64 u0d] 24)).heap.size = V1.heap.size + 1 := World.size_alloc _ _
            have e1 := isL.two (K.get 8 rfl) (K.get 7 rfl) Ha.out Hb0.out 29 na nb hna hnb
            rw [hbz] at e1
            replace K := (K.alloc (.cells #[.slice Aa na ca, .slice Ab nb cb] 29)).add (cl_isL _ _) e1
            have s0 := (K.get 5 rfl).cell 0
            have s1 := (K.get 5 rfl).cell 1
            have s2 := (K.get 5 rfl).cell 2
            have s3 := (K.get 5 rfl).cell 3
            have e2 := isL.one (K.get 9 rfl) Ha.out 29 na hna
            rw [World.size_alloc, hbz] at e2
            replace K := (K.alloc (.cells #[.slice Aa na ca] 29)).add (cl_isL _ _) e2
            have x0 := (K.get 5 rfl).cell 0
            have x1 := (K.get 5 rfl).cell 1
            have x2 := (K.get 5 rfl).cell 2
            have x3 := (K.get 5 rfl).cell 3
            have e3 := isL.one (K.get 10 rfl) Ha.out 29 na hna
            rw [World.size_alloc, World.size_alloc, hbz] at e3
            replace K := (K.alloc (.cells #[.slice Aa na ca] 29)).add (cl_isL _ _) e3
            have y0 := (K.get 5 rfl).cell 0
            have y1 := (K.get 5 rfl).cell 1
            have y2 := (K.get 5 rfl).cell 2
            have y3 := (K.get 5 rfl).cell 3
            have e4 := BoxN.new ((((V1.alloc (.cells #[.int .i64 u0n, .int .i64 u0d] 24)).alloc (.cells #[.slice Aa na ca, .slice Ab nb cb] 29)).alloc (.cells #[.slice Aa na ca] 29)).alloc (.cells #[.slice Aa na ca] 29)) 76 #[.slice (some ⟨V1.heap.size + 1, 0, none⟩) 2 2, .int .i64 p.num, .int .i64 (p.den : Int), .int .i64 d, .int .i64 1, .slice (some ⟨V1.heap.size + 1 + 1, 0, none⟩) 1 1, .int .i64 p.num, .int .i64 (p.den : Int), .int .i64 D, .int .i64 1, .slice (some ⟨V1.heap.size + 1 + 1 + 1, 0, none⟩) 1 1, .int .i64 q.num, .int .i64 (q.den : Int), .int .i64 d, .int .i64 1]
            rw [World.size_alloc, World.size_alloc, World.size_alloc, hbz] at e4
            replace K := (K.alloc (.cells #[.slice (some ⟨V1.heap.size + 1, 0, none⟩) 2 2, .int .i64 p.num, .int .i64 (p.den : Int), .int .i64 d, .int .i64 1, .slice (some ⟨V1.heap.size + 1 + 1, 0, none⟩) 1 1, .int .i64 p.num, .int .i64 (p.den : Int), .int .i64 D, .int .i64 1, .slice (some ⟨V1.heap.size + 1 + 1 + 1, 0, none⟩) 1 1, .int .i64 q.num, .int .i64 (q.den : Int), .int .i64 d, .int .i64 1] 76)).add (cl_box _ _ _) e4
            clear e1 e2 e3 e4 hbz
            go_wp2_with fail
            clear s0 s1 s2 s3 x0 x1 x2 x3 y0 y1 y2 y3
            generalize ((((V1.alloc (.cells #[.int .i64 u0n, .int .i64 u0d] 24)).alloc (.cells #[.slice Aa na ca, .slice Ab nb cb] 29)).alloc (.cells #[.slice Aa na ca] 29)).alloc (.cells #[.slice Aa na ca] 29)).alloc (.cells #[.slice (some ⟨V1.heap.size + 1, 0, none⟩) 2 2, .int .i64 p.num, .int .i64 (p.den : Int), .int .i64 d, .int .i64 1, .slice (some ⟨V1.heap.size + 1 + 1, 0, none⟩) 1 1, .int .i64 p.num, .int .i64 (p.den : Int), .int .i64 D, .int .i64 1, .slice (some ⟨V1.heap.size + 1 + 1 + 1, 0, none⟩) 1 1, .int .i64 q.num, .int .i64 (q.den : Int), .int .i64 d, .int .i64 1] 76) = WE at *
            generalize V1.heap.size = gb at *
            have KE := Lib.hid K
            clear K
            go_loopw [103] (fun i wr => ∃ j : Nat, j ≤ 3 ∧ i = .int .i64 ↑j ∧ Below WE.heap.size WE wr) (fun i _ => 3 - (intOf i).toNat)
            case atStart => exact ⟨0, Nat.zero_le _, rfl, Below.refl _ _⟩
            case round =>
              obtain ⟨j, hj, rfl, hBj⟩ := hrel
              have K := KE.out.keep hBj
              have HBj := Lib.hid hBj
              clear hBj
              have hj4 : j = 0 ∨ j = 1 ∨ j = 2 ∨ j = 3 := by omega
              clear hj
              rcases hj4 with rfl | rfl | rfl | rfl
              ·   have c0 := (K.get 0 rfl).cell 0
                  have c1 := (K.get 0 rfl).cell 1
                  have c2 := (K.get 0 rfl).cell 2
                  have c3 := (K.get 0 rfl).cell 3
                  have c4 := (K.get 0 rfl).cell 4
                  go_wp2_with fail
                  have hL := cl_isL _ _ _ _ (K.get 3 rfl) ((Below.refl _ _).alloc (Nat.le_refl _) (.cells #[.slice (some ⟨gb + 1, 0, none⟩) 2 2, .int .i64 p.num, .int .i64 (p.den : Int), .int .i64 d, .int .i64 1] 76))
                  (with_reducible refine (B1.out _ _ _ hL).mono ?_); rintro _ V2 ⟨rfl, hb⟩
                  clear hL c0 c1 c2 c3 c4
                  replace K := ((K.alloc (.cells #[.slice (some ⟨gb + 1, 0, none⟩) 2 2, .int .i64 p.num, .int .i64 (p.den : Int), .int .i64 d, .int .i64 1] 76)).keep hb).box u1n u1d
                  have hBn := Lib.hid (HBj.out.trans ((((Below.refl _ _).alloc (Nat.le_refl _) (.cells #[.slice (some ⟨gb + 1, 0, none⟩) 2 2, .int .i64 p.num, .int .i64 (p.den : Int), .int .i64 d, .int .i64 1] 76)).trans (hb.mono (by simp))).mono HBj.out.size))
                  replace hBn := Lib.hid (hBn.out.alloc hBn.out.size (.cells #[.int .i64 u1n, .int .i64 u1d] 24))
                  clear hb
                  simp only [Mx.Good, Prod.mk.injEq] at k0
                  rcases k0 with ⟨rfl, rfl⟩ | ⟨rfl, rfl⟩ | ⟨mm, mk, ⟨fm, fk, hmk⟩, ⟨rfl, rfl, rfl⟩, rfl, rfl, rfl⟩
                  · go_wp2_with fail
                    go_roundw
                    case rel => exact ⟨1, by decide, by go_num, hBn.out⟩
                    case measure => simp [intOf]
                  · go_wp2_with fail
                    go_roundw
                    case rel => exact ⟨1, by decide, by go_num, hBn.out⟩
                    case measure => simp [intOf]
                  · have HC : Hid (∀ W : World, _) := fun W => cmp_r fk fm W
                    have hc : ¬ cmpQ mk mm < 0 := fun h => Rat.not_lt.2 hmk (cmpQ_neg.1 h)
                    generalize cmpQ mk mm = kc at HC hc
                    have s0 := (K.get 0 rfl).c0
                    have s1 := (K.get 0 rfl).c1
                    have t0 := (K.get 5 rfl).c0
                    have t1 := (K.get 5 rfl).c1
                    go_wp2_with fail
                    (with_reducible refine (HC.out _).mono ?_); rintro _ V3 ⟨rfl, hb⟩
                    replace hBn := Lib.hid (hBn.out.trans (hb.b.mono hBn.out.size))
                    clear hb s0 s1 t0 t1 K
                    go_wp2_with fail
                    all_goals first
                      | exact ⟨⟨1, by decide, by go_num, hBn.out⟩, by simp [intOf]⟩
                      | (exfalso; omega)
              ·   have c0 := (K.get 0 rfl).cell 5
                  have c1 := (K.get 0 rfl).cell 6
                  have c2 := (K.get 0 rfl).cell 7
                  have c3 := (K.get 0 rfl).cell 8
                  have c4 := (K.get 0 rfl).cell 9
                  go_wp2_with fail
                  have hL := cl_isL _ _ _ _ (K.get 2 rfl) ((Below.refl _ _).alloc (Nat.le_refl _) (.cells #[.slice (some ⟨gb + 1 + 1, 0, none⟩) 1 1, .int .i64 p.num, .int .i64 (p.den : Int), .int .i64 D, .int .i64 1] 76))
                  (with_reducible refine (B2.out _ _ _ hL).mono ?_); rintro _ V2 ⟨rfl, hb⟩
                  clear hL c0 c1 c2 c3 c4
                  replace K := ((K.alloc (.cells #[.slice (some ⟨gb + 1 + 1, 0, none⟩) 1 1, .int .i64 p.num, .int .i64 (p.den : Int), .int .i64 D, .int .i64 1] 76)).keep hb).box u2n u2d
                  have hBn := Lib.hid (HBj.out.trans ((((Below.refl _ _).alloc (Nat.le_refl _) (.cells #[.slice (some ⟨gb + 1 + 1, 0, none⟩) 1 1, .int .i64 p.num, .int .i64 (p.den : Int), .int .i64 D, .int .i64 1] 76)).trans (hb.mono (by simp))).mono HBj.out.size))
                  replace hBn := Lib.hid (hBn.out.alloc hBn.out.size (.cells #[.int .i64 u2n, .int .i64 u2d] 24))
                  clear hb
                  simp only [Mx.Good, Prod.mk.injEq] at k1
                  rcases k1 with ⟨rfl, rfl⟩ | ⟨rfl, rfl⟩ | ⟨mm, mk, ⟨fm, fk, hmk⟩, ⟨rfl, rfl, rfl⟩, rfl, rfl, rfl⟩
                  · go_wp2_with fail
                    go_roundw
                    case rel => exact ⟨2, by decide, by go_num, hBn.out⟩
                    case measure => simp [intOf]
                  · go_wp2_with fail
                    go_roundw
                    case rel => exact ⟨2, by decide, by go_num, hBn.out⟩
                    case measure => simp [intOf]
                  · have HC : Hid (∀ W : World, _) := fun W => cmp_r fk fm W
                    have hc : ¬ cmpQ mk mm < 0 := fun h => Rat.not_lt.2 hmk (cmpQ_neg.1 h)
                    generalize cmpQ mk mm = kc at HC hc
                    have s0 := (K.get 0 rfl).c0
                    have s1 := (K.get 0 rfl).c1
                    have t0 := (K.get 5 rfl).c0
                    have t1 := (K.get 5 rfl).c1
                    go_wp2_with fail
                    (with_reducible refine (HC.out _).mono ?_); rintro _ V3 ⟨rfl, hb⟩
                    replace hBn := Lib.hid (hBn.out.trans (hb.b.mono hBn.out.size))
                    clear hb s0 s1 t0 t1 K
                    go_wp2_with fail
                    all_goals first
                      | exact ⟨⟨2, by decide, by go_num, hBn.out⟩, by simp [intOf]⟩
                      | (exfalso; omega)
              ·   have c0 := (K.get 0 rfl).cell 10
                  have c1 := (K.get 0 rfl).cell 11
                  have c2 := (K.get 0 rfl).cell 12
                  have c3 := (K.get 0 rfl).cell 13
                  have c4 := (K.get 0 rfl).cell 14
                  go_wp2_with fail
                  have hL := cl_isL _ _ _ _ (K.get 1 rfl) ((Below.refl _ _).alloc (Nat.le_refl _) (.cells #[.slice (some ⟨gb + 1 + 1 + 1, 0, none⟩) 1 1, .int .i64 q.num, .int .i64 (q.den : Int), .int .i64 d, .int .i64 1] 76))
                  (with_reducible refine (B3.out _ _ _ hL).mono ?_); rintro _ V2 ⟨rfl, hb⟩
                  clear hL c0 c1 c2 c3 c4
                  replace K := ((K.alloc (.cells #[.slice (some ⟨gb + 1 + 1 + 1, 0, none⟩) 1 1, .int .i64 q.num, .int .i64 (q.den : Int), .int .i64 d, .int .i64 1] 76)).keep hb).box u3n u3d
                  have hBn := Lib.hid (HBj.out.trans ((((Below.refl _ _).alloc (Nat.le_refl _) (.cells #[.slice (some ⟨gb + 1 + 1 + 1, 0, none⟩) 1 1, .int .i64 q.num, .int .i64 (q.den : Int), .int .i64 d, .int .i64 1] 76)).trans (hb.mono (by simp))).mono HBj.out.size))
                  replace hBn := Lib.hid (hBn.out.alloc hBn.out.size (.cells #[.int .i64 u3n, .int .i64 u3d] 24))
                  clear hb
                  simp only [Mx.Good, Prod.mk.injEq] at k2
                  rcases k2 with ⟨rfl, rfl⟩ | ⟨rfl, rfl⟩ | ⟨mm, mk, ⟨fm, fk, hmk⟩, ⟨rfl, rfl, rfl⟩, rfl, rfl, rfl⟩
                  · go_wp2_with fail
                    go_roundw
                    case rel => exact ⟨3, by decide, by go_num, hBn.out⟩
                    case measure => simp [intOf]
                  · go_wp2_with fail
                    go_roundw
                    case rel => exact ⟨3, by decide, by go_num, hBn.out⟩
                    case measure => simp [intOf]
                  · have HC : Hid (∀ W : World, _) := fun W => cmp_r fk fm W
                    have hc : ¬ cmpQ mk mm < 0 := fun h => Rat.not_lt.2 hmk (cmpQ_neg.1 h)
                    generalize cmpQ mk mm = kc at HC hc
                    have s0 := (K.get 0 rfl).c0
                    have s1 := (K.get 0 rfl).c1
                    have t0 := (K.get 5 rfl).c0
                    have t1 := (K.get 5 rfl).c1
                    go_wp2_with fail
                    (with_reducible refine (HC.out _).mono ?_); rintro _ V3 ⟨rfl, hb⟩
                    replace hBn := Lib.hid (hBn.out.trans (hb.b.mono hBn.out.size))
                    clear hb s0 s1 t0 t1 K
                    go_wp2_with fail
                    all_goals first
                      | exact ⟨⟨3, by decide, by go_num, hBn.out⟩, by simp [intOf]⟩
                      | (exfalso; omega)
              · have hBo := Lib.hid K.b
                go_wp2_with fail
                go_roundw
                case rel => exact ⟨2, by decide, by go_num, hBo.out⟩
                case measure => simp [intOf]
        · go_wp2_with fail
          (with_reducible refine (HW.out _).mono ?_); rintro _ Z ⟨rfl, hb⟩
          have hB := Lib.hid (KF.out.b.trans ((K.keep hb).b.mono KF.out.b.size))
          clear K hb
          go_wp2
          go_ret
          exact ⟨rfl, hB.out⟩
end Go.Proofs.YtcfbccdicgeddaaGreat.MoLaw
