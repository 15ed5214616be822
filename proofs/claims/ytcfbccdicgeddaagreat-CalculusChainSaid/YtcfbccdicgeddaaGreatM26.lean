/- Merged texts: CChLaw. -/
import Derived.Test.YtcfbccdicgeddaaGreatM25
/- CalculusChain returns true. -/
namespace Go.Proofs.YtcfbccdicgeddaaGreat.ChLaw
open Go.RowKit Go.Joins Go.Shelf Go.Sort Num Mx

theorem chain_w (p q : Rat) (a b : Int) (hp : Fit p) (p0 : 0 < p) (hq : Fit q) (q0 : 0 < q) (ha : 0 ≤ a ∧ a ≤ 255) (hb : 0 ≤ b ∧ b ≤ 255) (pn pd qn qd mn md : Int) (h1 : p.num = pn) (h2 : (p.den : Int) = pd) (h3 : q.num = qn) (h4 : (q.den : Int) = qd) (h5 : (minq p q).num = mn) (h6 : ((minq p q).den : Int) = md) (W : World) :
    Calls Tryz.prog 16 #[.agg #[.int .i64 pn, .int .i64 pd, .int .i64 a, .int .i64 1], .agg #[.int .i64 qn, .int .i64 qd, .int .i64 b, .int .i64 1]] W fun e w' => e = .returned (.tuple #[.agg #[.int .i64 mn, .int .i64 md, .int .i64 (a + b), .int .i64 1], .int .i64 0]) ∧ Below W.heap.size W w' := by
  subst h1 h2 h3 h4 h5 h6
  have h := chain_ok p (a : Rat) q (b : Rat) hp p0 (int_fit (by omega)) (Rat.intCast_le_intCast.2 ha.1) hq q0 (int_fit (by omega)) (Rat.intCast_le_intCast.2 hb.1) W
  have e : (a : Rat) + (b : Rat) = ((a + b : Int) : Rat) := (Rat.intCast_add a b).symm
  unfold chainV at h
  rw [e, if_pos (int_fit (by omega))] at h
  exact h

theorem wrap_i64 {z : Int} (h : -1073741824 ≤ z ∧ z ≤ 1073741824) : IntKind.i64.wrap z = z := by
  unfold IntKind.wrap
  simp [IntKind.signed, IntKind.bits]
  omega
set_option maxRecDepth 100000 in
set_option maxHeartbeats 8000000 in
theorem walk (A : Option Addr) (cap : Nat) (zs : List Int) (r d u v : Int) (hr : 0 ≤ r ∧ r ≤ 255) (hd : 0 ≤ d ∧ d ≤ 255) (hu : 0 ≤ u ∧ u ≤ 255) (hv : 0 ≤ v ∧ v ≤ 255) (w : World) (hz : Nums w A zs) :
    Calls Tryz.prog 9 #[.slice A zs.length cap, .int .u8 r, .int .u8 d, .int .u8 u, .int .u8 v] w fun e w' => e = .returned (.bool true) ∧ Below w.heap.size w w' := by
  have HS := SmC.small_yes A cap zs w w hz (Below.refl _ _)
  have HW : Hid (∀ W : World, _) := fun W => Aw3.walk W
  have HN : Hid (∀ (n d : Int) (W : World), _) := fun n d W => num3_any n d W
  have hne := small_ne zs
  have hsm := small_sm zs
  clear hz
  generalize small zs = l at HS hne hsm
  obtain ⟨x, rest, rfl⟩ : ∃ x rest, l = x :: rest := by cases l with | nil => exact absurd rfl hne | cons x rest => exact ⟨x, rest, rfl⟩
  have hx := hsm x (by simp)
  clear hsm hne
  obtain ⟨n, hn⟩ : ∃ n, (x :: rest).length = n := ⟨_, rfl⟩
  have hn1 : 1 ≤ n := by rw [← hn]; simp
  rw [hn] at HS
  obtain ⟨P, hP⟩ : ∃ P, 1 + r % 160 = P := ⟨_, rfl⟩
  obtain ⟨Q, hQ⟩ : ∃ Q, 1 + u % 160 = Q := ⟨_, rfl⟩
  have hP1 : 1 ≤ P ∧ P ≤ 160 := by omega
  have hQ1 : 1 ≤ Q ∧ Q ≤ 160 := by omega
  obtain ⟨fp, p0⟩ := rate_fit hP1 (e := 8) (by decide)
  obtain ⟨fq, q0⟩ := rate_fit hQ1 (e := 8) (by decide)
  have HP : Hid (∀ W : World, _) := fun W => make_w P 8 (by omega) (by decide) W
  have HQ : Hid (∀ W : World, _) := fun W => make_w Q 8 (by omega) (by decide) W
  have fm : Fit (minq (Rat.divInt P 8) (Rat.divInt Q 8)) := minq_fit fp fq
  have hmin : 0 < minq (Rat.divInt P 8) (Rat.divInt Q 8) := by unfold minq; split <;> assumption
  have HCh : Hid (∀ W : World, _) := fun W => chain_w _ _ d v fp p0 fq q0 hd hv _ _ _ _ _ _ rfl rfl rfl rfl rfl rfl W
  have hsml : SmL [[x]] := fun c hc => by rw [List.mem_singleton.1 hc]; exact ⟨by simp, fun y hy => by rw [List.mem_singleton.1 hy]; exact hx⟩
  have hd1 := delay_sm hsml (by simp) p0 (D := P.toNat) (K := 65600) (by omega) (by omega) (by decide) (fun y hy => gd_div8 hP1 hy) (L := d) (by omega)
  have hd2 : if minq (Rat.divInt P 8) (Rat.divInt Q 8) < sumf rateL [[x]] then delayV [[x]] (minq (Rat.divInt P 8) (Rat.divInt Q 8)) ((d + v : Int) : Rat) = (0, 0, 6) else ∃ m, delayV [[x]] (minq (Rat.divInt P 8) (Rat.divInt Q 8)) ((d + v : Int) : Rat) = (m.num, (m.den : Int), 0) ∧ Dl [[x]] (minq (Rat.divInt P 8) (Rat.divInt Q 8)) ((d + v : Int) : Rat) m ∧ Fit m := by
    have hor : minq (Rat.divInt P 8) (Rat.divInt Q 8) = Rat.divInt P 8 ∨ minq (Rat.divInt P 8) (Rat.divInt Q 8) = Rat.divInt Q 8 := by unfold minq; split <;> simp
    rcases hor with e | e
    · rw [e]
      have := delay_sm hsml (by simp) p0 (D := P.toNat) (K := 65600) (by omega) (by omega) (by decide) (fun y hy => gd_div8 hP1 hy) (L := d + v) (by omega)
      split at this
      · rw [if_pos (by assumption)]; exact this
      · rw [if_neg (by assumption)]; obtain ⟨m, a, b, c⟩ := this; exact ⟨m, a, b, gd_fit c (by omega) (by omega) (by omega)⟩
    · rw [e]
      have := delay_sm hsml (by simp) q0 (D := Q.toNat) (K := 65600) (by omega) (by omega) (by decide) (fun y hy => gd_div8 hQ1 hy) (L := d + v) (by omega)
      split at this
      · rw [if_pos (by assumption)]; exact this
      · rw [if_neg (by assumption)]; obtain ⟨m, a, b, c⟩ := this; exact ⟨m, a, b, gd_fit c (by omega) (by omega) (by omega)⟩
  have hrs : sumf rateL [[x]] = x.r := by show x.r + 0 = x.r; grind
  rw [hrs] at hd1 hd2
  obtain ⟨⟨a1, b1, c1⟩, hv1⟩ : ∃ t, delayV [[x]] (Rat.divInt P 8) (d : Rat) = t := ⟨_, rfl⟩
  obtain ⟨⟨a2, b2, c2⟩, hv2⟩ : ∃ t, delayV [[x]] (minq (Rat.divInt P 8) (Rat.divInt Q 8)) ((d + v : Int) : Rat) = t := ⟨_, rfl⟩
  have H1 : Hid (∀ (A : Option Addr) (cap : Nat) (W : World), isL A [[x]] W → _) := fun A cap W hI => delay_w (by simp) fp p0 (int_fit (z := d) (by omega)) (Rat.intCast_le_intCast.2 hd.1) 1 rfl _ _ d 1 a1 b1 c1 rfl rfl rfl rfl hv1 A cap W hI
  have H2 : Hid (∀ (A : Option Addr) (cap : Nat) (W : World), isL A [[x]] W → _) := fun A cap W hI => delay_w (by simp) fm hmin (int_fit (z := d + v) (by omega)) (Rat.intCast_le_intCast.2 (show (0 : Int) ≤ d + v by omega)) 1 rfl _ _ (d + v) 1 a2 b2 c2 rfl rfl rfl rfl hv2 A cap W hI
  rw [hv1] at hd1
  rw [hv2] at hd2
  clear hv1 hv2
  generalize hpq : Rat.divInt P 8 = p at *
  generalize hqq : Rat.divInt Q 8 = q at *
  obtain ⟨M, hM⟩ : ∃ M, minq p q = M := ⟨_, rfl⟩
  rw [hM] at HCh H2 hd2 hmin
  have HSh : Hid (∀ (A : Option Addr) (ca : Nat) (f : Rat) (W : World), Fit f → 0 ≤ f → isC A ca [x] W → _) := fun A ca f W hf hf0 hi => shift_one f hf hf0 W hi
  have HDn : Hid (∀ W : World, _) := fun W => delay_nil q fq v hv _ _ rfl rfl W
  have HS := Lib.hid HS
  have hP := Lib.hid hP
  have hQ := Lib.hid hQ
  have hwd : IntKind.i64.wrap d = d := wrap_i64 (by omega)
  have hwv : IntKind.i64.wrap v = v := wrap_i64 (by omega)
  have K := Kept.start w
  go_enter Tryz.func9, Tryz.ntmps9
  go_wp2_with fail
  (with_reducible refine HS.out.mono ?_); rintro e U1 ⟨Aa, ca, rfl, hi, hcap, hb⟩
  have hi := hi.head
  replace K := (K.keep hb).add (cl_isC Aa ca [x]) hi
  have hca : 1 ≤ ca := by omega
  clear hi hb HS hcap
  have hPo := hP.out
  have hQo := hQ.out
  go_wp2_with fail
  (with_reducible refine (HP.out _).mono ?_); rintro e U2 ⟨rfl, hb⟩
  replace K := (K.keep hb).box p.num p.den
  clear hb
  go_wp2_with fail
  (with_reducible refine (HQ.out _).mono ?_); rintro e U3 ⟨rfl, hb⟩
  replace K := (K.keep hb).box q.num q.den
  clear hb
  have p0 := (K.get 1 rfl).c0
  have p1 := (K.get 1 rfl).c1
  have q0 := (K.get 0 rfl).c0
  have q1 := (K.get 0 rfl).c1
  have l12 := (K.get 1 rfl).lt
  have l14 := (K.get 0 rfl).lt
  go_wp2_with fail
  generalize U3.alloc (.cells #[.int .i64 q.num, .int .i64 (q.den : Int)] 24) = W0 at *
  generalize U2.heap.size = g12 at *
  generalize U3.heap.size = g14 at *
  refine wp_region_inv (Inv := fun Lb a W => ∃ (b0 b1 b2 b3 b4 b5 b6 b7 b8 b9 b10 b11 b12 b13 : Bool) (G10 : Nat) (G11 : Nat), Lb = #[b0, b1, b2, b3, b4, b5, b6, b7, b8, b9, b10, b11, b12, b13] ∧ a = { tmps := #[Value.slice A zs.length cap, Value.int IntKind.u8 r, Value.int IntKind.u8 d, Value.int IntKind.u8 u, Value.int IntKind.u8 v, undef, undef, undef, undef, undef, Value.bool false, Value.slice Aa 1 ca, .pointer (some ⟨g12, 0, none⟩), Value.int IntKind.i64 0, .pointer (some ⟨g14, 0, none⟩), Value.int IntKind.i64 0, (bif b10 then .pointer (some ⟨G10, 0, none⟩) else undef), (bif b11 then .pointer (some ⟨G11, 0, none⟩) else undef), undef, undef, undef, undef, undef, undef, undef, undef, undef, undef, undef, undef, Value.slice A zs.length cap, Value.slice Aa n ca, Value.slice Aa 1 ca, Value.tuple #[Value.agg #[Value.int IntKind.i64 p.num, Value.int IntKind.i64 ↑p.den], Value.int IntKind.i64 0], Value.int IntKind.u8 r, Value.int IntKind.i64 r, Value.int IntKind.i64 (r % 160), Value.int IntKind.i64 P, Value.tuple #[Value.agg #[Value.int IntKind.i64 p.num, Value.int IntKind.i64 ↑p.den], Value.int IntKind.i64 0], Value.agg #[Value.int IntKind.i64 p.num, Value.int IntKind.i64 ↑p.den], Value.int IntKind.i64 0, Value.tuple #[Value.agg #[Value.int IntKind.i64 q.num, Value.int IntKind.i64 ↑q.den], Value.int IntKind.i64 0], Value.int IntKind.u8 u, Value.int IntKind.i64 u, Value.int IntKind.i64 (u % 160), Value.int IntKind.i64 Q, Value.tuple #[Value.agg #[Value.int IntKind.i64 q.num, Value.int IntKind.i64 ↑q.den], Value.int IntKind.i64 0], Value.agg #[Value.int IntKind.i64 q.num, Value.int IntKind.i64 ↑q.den], Value.int IntKind.i64 0, (bif b0 then .agg #[.int .i64 p.num, .int .i64 (p.den : Int)] else undef), (bif b1 then .int .u8 d else undef), (bif b2 then .int .i64 d else undef), (bif b3 then .agg #[.int .i64 d, .int .i64 1] else undef), (bif b4 then .agg #[.int .i64 p.num, .int .i64 (p.den : Int), .int .i64 d, .int .i64 1] else undef), (bif b5 then .agg #[.int .i64 q.num, .int .i64 (q.den : Int)] else undef), (bif b6 then .int .u8 v else undef), (bif b7 then .int .i64 v else undef), (bif b8 then .agg #[.int .i64 v, .int .i64 1] else undef), (bif b9 then .agg #[.int .i64 q.num, .int .i64 (q.den : Int), .int .i64 v, .int .i64 1] else undef), undef, undef, undef, undef, undef, undef, undef, undef, undef, undef, undef, undef, undef, undef, undef, undef, undef, undef, undef, undef, undef, undef, undef, undef, undef, undef, undef, undef, undef, undef, undef, undef, undef, undef, undef, undef, undef, undef, undef, undef, undef, undef, undef, undef, undef, undef, undef, undef, undef, undef, undef, undef, undef, undef, undef, undef, undef, undef, undef, undef, undef, undef, undef, undef, undef, undef, undef, undef, undef, undef, undef, undef, undef, undef, undef, undef, undef, undef, undef, undef, undef, undef, undef, undef, undef, undef, undef, undef, undef, undef], defers := [] } ∧ (b12 = true → b10 = true) ∧ (b13 = true → b11 = true) ∧ Below W0.heap.size W0 W ∧ (b10 = true → W0.heap.size ≤ G10 ∧ G10 < W.heap.size ∧ (b12 = false → BoxN W G10 26 #[.int .i64 0, .int .i64 0, .int .i64 0, .int .i64 0]) ∧ (b12 = true → BoxN W G10 26 #[.int .i64 p.num, .int .i64 (p.den : Int), .int .i64 d, .int .i64 1])) ∧ (b11 = true → W0.heap.size ≤ G11 ∧ G11 < W.heap.size ∧ (b13 = false → BoxN W G11 26 #[.int .i64 0, .int .i64 0, .int .i64 0, .int .i64 0]) ∧ (b13 = true → BoxN W G11 26 #[.int .i64 q.num, .int .i64 (q.den : Int), .int .i64 v, .int .i64 1])) ∧ (b10 = true → b11 = true → G10 ≠ G11)) (by kernel_rfl) (down_of (by decide +kernel)) ?start ?size ?done ?step
  case start => exact ⟨false, false, false, false, false, false, false, false, false, false, false, false, false, false, 0, 0, rfl, rfl, by simp, by simp, (Below.refl _ _).drew, by simp, by simp, by simp⟩
  case size =>
    rintro Lb a W ⟨b0, b1, b2, b3, b4, b5, b6, b7, b8, b9, b10, b11, b12, b13, G10, G11, rfl, -⟩
    rfl
  case step =>
    rintro Lb a W i o ⟨b0, b1, b2, b3, b4, b5, b6, b7, b8, b9, b10, b11, b12, b13, G10, G11, rfl, rfl, p12, p13, f0, f1, f2, f3⟩ ho hl' hdep
    have hi' : i < 14 := (Array.getElem?_eq_some_iff.1 ho).1
    have hi2 : i = 0 ∨ i = 1 ∨ i = 2 ∨ i = 3 ∨ i = 4 ∨ i = 5 ∨ i = 6 ∨ i = 7 ∨ i = 8 ∨ i = 9 ∨ i = 10 ∨ i = 11 ∨ i = 12 ∨ i = 13 := by omega
    clear hi'
    replace p12 := Lib.hid p12
    replace p13 := Lib.hid p13
    replace f0 := Lib.hid f0
    replace f1 := Lib.hid f1
    replace f2 := Lib.hid f2
    replace f3 := Lib.hid f3
    rcases hi2 with rfl | rfl | rfl | rfl | rfl | rfl | rfl | rfl | rfl | rfl | rfl | rfl | rfl | rfl
    · cases ho
      obtain rfl : b0 = false := hl'
      clear hdep
      have c0 := (f0.out.cell (l12)).trans p0
      have c1 := (f0.out.cell (l12)).trans p1
      refine wpOp_step rfl (fun K hK => ?_)
      go_simp
      refine hK _ _ ?_; clear hK K
      exact ⟨true, b1, b2, b3, b4, b5, b6, b7, b8, b9, b10, b11, b12, b13, G10, G11, rfl, rfl, p12.out, p13.out, f0.out, f1.out, f2.out, f3.out⟩
    · cases ho
      obtain rfl : b1 = false := hl'
      clear hdep
      refine wpOp_step rfl (fun K hK => ?_)
      go_simp
      refine hK _ _ ?_; clear hK K
      exact ⟨b0, true, b2, b3, b4, b5, b6, b7, b8, b9, b10, b11, b12, b13, G10, G11, rfl, rfl, p12.out, p13.out, f0.out, f1.out, f2.out, f3.out⟩
    · cases ho
      obtain rfl : b2 = false := hl'
      obtain rfl : b1 = true := hdep ⟨1, .data⟩ (by simp) rfl
      clear hdep
      refine wpOp_step rfl (fun K hK => ?_)
      simp only [cond_true]
      go_simp
      refine hK _ _ ?_; clear hK K
      exact ⟨b0, true, true, b3, b4, b5, b6, b7, b8, b9, b10, b11, b12, b13, G10, G11, rfl, rfl, p12.out, p13.out, f0.out, f1.out, f2.out, f3.out⟩
    · cases ho
      obtain rfl : b3 = false := hl'
      obtain rfl : b2 = true := hdep ⟨2, .data⟩ (by simp) rfl
      clear hdep
      refine wpOp_step rfl (fun K hK => ?_)
      simp only [cond_true]
      go_simp
      (with_reducible refine (HN.out _ _ _).mono ?_); rintro e w4 ⟨rfl, hb⟩
      refine hK _ _ ?_; clear hK K
      exact ⟨b0, b1, true, true, b4, b5, b6, b7, b8, b9, b10, b11, b12, b13, G10, G11, rfl, rfl, p12.out, p13.out, f0.out.trans (hb.mono f0.out.size), fun h => ⟨(f1.out h).1, Nat.lt_of_lt_of_le (f1.out h).2.1 hb.size, fun e => ((f1.out h).2.2.1 e).below hb (f1.out h).2.1, fun e => ((f1.out h).2.2.2 e).below hb (f1.out h).2.1⟩, fun h => ⟨(f2.out h).1, Nat.lt_of_lt_of_le (f2.out h).2.1 hb.size, fun e => ((f2.out h).2.2.1 e).below hb (f2.out h).2.1, fun e => ((f2.out h).2.2.2 e).below hb (f2.out h).2.1⟩, f3.out⟩
    · cases ho
      obtain rfl : b4 = false := hl'
      obtain rfl : b0 = true := hdep ⟨0, .data⟩ (by simp) rfl
      obtain rfl : b3 = true := hdep ⟨3, .data⟩ (by simp) rfl
      clear hdep
      refine wpOp_step rfl (fun K hK => ?_)
      simp only [cond_true]
      go_simp
      refine hK _ _ ?_; clear hK K
      exact ⟨true, b1, b2, true, true, b5, b6, b7, b8, b9, b10, b11, b12, b13, G10, G11, rfl, rfl, p12.out, p13.out, f0.out, f1.out, f2.out, f3.out⟩
    · cases ho
      obtain rfl : b5 = false := hl'
      clear hdep
      have c0 := (f0.out.cell (l14)).trans q0
      have c1 := (f0.out.cell (l14)).trans q1
      refine wpOp_step rfl (fun K hK => ?_)
      go_simp
      refine hK _ _ ?_; clear hK K
      exact ⟨b0, b1, b2, b3, b4, true, b6, b7, b8, b9, b10, b11, b12, b13, G10, G11, rfl, rfl, p12.out, p13.out, f0.out, f1.out, f2.out, f3.out⟩
    · cases ho
      obtain rfl : b6 = false := hl'
      clear hdep
      refine wpOp_step rfl (fun K hK => ?_)
      go_simp
      refine hK _ _ ?_; clear hK K
      exact ⟨b0, b1, b2, b3, b4, b5, true, b7, b8, b9, b10, b11, b12, b13, G10, G11, rfl, rfl, p12.out, p13.out, f0.out, f1.out, f2.out, f3.out⟩
    · cases ho
      obtain rfl : b7 = false := hl'
      obtain rfl : b6 = true := hdep ⟨6, .data⟩ (by simp) rfl
      clear hdep
      refine wpOp_step rfl (fun K hK => ?_)
      simp only [cond_true]
      go_simp
      refine hK _ _ ?_; clear hK K
      exact ⟨b0, b1, b2, b3, b4, b5, true, true, b8, b9, b10, b11, b12, b13, G10, G11, rfl, rfl, p12.out, p13.out, f0.out, f1.out, f2.out, f3.out⟩
    · cases ho
      obtain rfl : b8 = false := hl'
      obtain rfl : b7 = true := hdep ⟨7, .data⟩ (by simp) rfl
      clear hdep
      refine wpOp_step rfl (fun K hK => ?_)
      simp only [cond_true]
      go_simp
      (with_reducible refine (HN.out _ _ _).mono ?_); rintro e w4 ⟨rfl, hb⟩
      refine hK _ _ ?_; clear hK K
      exact ⟨b0, b1, b2, b3, b4, b5, b6, true, true, b9, b10, b11, b12, b13, G10, G11, rfl, rfl, p12.out, p13.out, f0.out.trans (hb.mono f0.out.size), fun h => ⟨(f1.out h).1, Nat.lt_of_lt_of_le (f1.out h).2.1 hb.size, fun e => ((f1.out h).2.2.1 e).below hb (f1.out h).2.1, fun e => ((f1.out h).2.2.2 e).below hb (f1.out h).2.1⟩, fun h => ⟨(f2.out h).1, Nat.lt_of_lt_of_le (f2.out h).2.1 hb.size, fun e => ((f2.out h).2.2.1 e).below hb (f2.out h).2.1, fun e => ((f2.out h).2.2.2 e).below hb (f2.out h).2.1⟩, f3.out⟩
    · cases ho
      obtain rfl : b9 = false := hl'
      obtain rfl : b5 = true := hdep ⟨5, .data⟩ (by simp) rfl
      obtain rfl : b8 = true := hdep ⟨8, .data⟩ (by simp) rfl
      clear hdep
      refine wpOp_step rfl (fun K hK => ?_)
      simp only [cond_true]
      go_simp
      refine hK _ _ ?_; clear hK K
      exact ⟨b0, b1, b2, b3, b4, true, b6, b7, true, true, b10, b11, b12, b13, G10, G11, rfl, rfl, p12.out, p13.out, f0.out, f1.out, f2.out, f3.out⟩
    · cases ho
      obtain rfl : b10 = false := hl'
      clear hdep
      obtain rfl : b12 = false := by cases b12 with | false => rfl | true => exact absurd (p12.out rfl) (by simp)
      refine wpOp_step rfl (fun K hK => ?_)
      go_simp
      refine hK _ _ ?_; clear hK K
      exact ⟨b0, b1, b2, b3, b4, b5, b6, b7, b8, b9, true, b11, false, b13, W.heap.size, G11, rfl, rfl, by simp, p13.out, f0.out.alloc f0.out.size _, fun _ => ⟨f0.out.size, by simp, fun _ => BoxN.new W 26 #[.int .i64 0, .int .i64 0, .int .i64 0, .int .i64 0], by simp⟩, fun h => ⟨(f2.out h).1, by have := (f2.out h).2.1; simp; omega, fun e => ((f2.out h).2.2.1 e).alloc _, fun e => ((f2.out h).2.2.2 e).alloc _⟩, fun _ h => Nat.ne_of_gt (f2.out h).2.1⟩
    · cases ho
      obtain rfl : b11 = false := hl'
      clear hdep
      obtain rfl : b13 = false := by cases b13 with | false => rfl | true => exact absurd (p13.out rfl) (by simp)
      refine wpOp_step rfl (fun K hK => ?_)
      go_simp
      refine hK _ _ ?_; clear hK K
      exact ⟨b0, b1, b2, b3, b4, b5, b6, b7, b8, b9, b10, true, b12, false, G10, W.heap.size, rfl, rfl, p12.out, by simp, f0.out.alloc f0.out.size _, fun h => ⟨(f1.out h).1, by have := (f1.out h).2.1; simp; omega, fun e => ((f1.out h).2.2.1 e).alloc _, fun e => ((f1.out h).2.2.2 e).alloc _⟩, fun _ => ⟨f0.out.size, by simp, fun _ => BoxN.new W 26 #[.int .i64 0, .int .i64 0, .int .i64 0, .int .i64 0], by simp⟩, fun h _ => Nat.ne_of_lt (f1.out h).2.1⟩
    · cases ho
      obtain rfl : b12 = false := hl'
      obtain rfl : b10 = true := hdep ⟨10, .data⟩ (by simp) rfl
      obtain rfl : b4 = true := hdep ⟨4, .data⟩ (by simp) rfl
      clear hdep
      obtain ⟨hle, hlt, hbz, -⟩ := f1.out rfl
      have bS := hbz rfl
      clear hbz
      have z0 := bS.cell 0
      have y0 := bS.frozen 0
      have z1 := bS.cell 1
      have y1 := bS.frozen 1
      have z2 := bS.cell 2
      have y2 := bS.frozen 2
      have z3 := bS.cell 3
      have y3 := bS.frozen 3
      refine wpOp_step rfl (fun K hK => ?_)
      simp only [cond_true]
      go_simp
      refine hK _ _ ?_; clear hK K
      exact ⟨b0, b1, b2, b3, true, b5, b6, b7, b8, b9, true, b11, true, b13, G10, G11, rfl, rfl, by simp, p13.out, ((((f0.out.setCell (p := ⟨G10, 0, none⟩) hle (.int .i64 p.num)).setCell (p := ⟨G10, 1, none⟩) hle (.int .i64 (p.den : Int))).setCell (p := ⟨G10, 2, none⟩) hle (.int .i64 d)).setCell (p := ⟨G10, 3, none⟩) hle (.int .i64 1)), fun _ => ⟨hle, by simpa using hlt, by simp, fun _ => bS.set4 (.int .i64 p.num) (.int .i64 (p.den : Int)) (.int .i64 d) (.int .i64 1)⟩, fun h => ⟨(f2.out h).1, by simpa using (f2.out h).2.1, fun e => ((((((f2.out h).2.2.1 e).far (p := ⟨G10, 0, none⟩) (Ne.symm (f3.out rfl h)) _).far (p := ⟨G10, 1, none⟩) (Ne.symm (f3.out rfl h)) _).far (p := ⟨G10, 2, none⟩) (Ne.symm (f3.out rfl h)) _).far (p := ⟨G10, 3, none⟩) (Ne.symm (f3.out rfl h)) _), fun e => ((((((f2.out h).2.2.2 e).far (p := ⟨G10, 0, none⟩) (Ne.symm (f3.out rfl h)) _).far (p := ⟨G10, 1, none⟩) (Ne.symm (f3.out rfl h)) _).far (p := ⟨G10, 2, none⟩) (Ne.symm (f3.out rfl h)) _).far (p := ⟨G10, 3, none⟩) (Ne.symm (f3.out rfl h)) _)⟩, f3.out⟩
    · cases ho
      obtain rfl : b13 = false := hl'
      obtain rfl : b11 = true := hdep ⟨11, .data⟩ (by simp) rfl
      obtain rfl : b9 = true := hdep ⟨9, .data⟩ (by simp) rfl
      clear hdep
      obtain ⟨hle, hlt, hbz, -⟩ := f2.out rfl
      have bS := hbz rfl
      clear hbz
      have z0 := bS.cell 0
      have y0 := bS.frozen 0
      have z1 := bS.cell 1
      have y1 := bS.frozen 1
      have z2 := bS.cell 2
      have y2 := bS.frozen 2
      have z3 := bS.cell 3
      have y3 := bS.frozen 3
      refine wpOp_step rfl (fun K hK => ?_)
      simp only [cond_true]
      go_simp
      refine hK _ _ ?_; clear hK K
      exact ⟨b0, b1, b2, b3, b4, b5, b6, b7, b8, true, b10, true, b12, true, G10, G11, rfl, rfl, p12.out, by simp, ((((f0.out.setCell (p := ⟨G11, 0, none⟩) hle (.int .i64 q.num)).setCell (p := ⟨G11, 1, none⟩) hle (.int .i64 (q.den : Int))).setCell (p := ⟨G11, 2, none⟩) hle (.int .i64 v)).setCell (p := ⟨G11, 3, none⟩) hle (.int .i64 1)), fun h => ⟨(f1.out h).1, by simpa using (f1.out h).2.1, fun e => ((((((f1.out h).2.2.1 e).far (p := ⟨G11, 0, none⟩) (f3.out h rfl) _).far (p := ⟨G11, 1, none⟩) (f3.out h rfl) _).far (p := ⟨G11, 2, none⟩) (f3.out h rfl) _).far (p := ⟨G11, 3, none⟩) (f3.out h rfl) _), fun e => ((((((f1.out h).2.2.2 e).far (p := ⟨G11, 0, none⟩) (f3.out h rfl) _).far (p := ⟨G11, 1, none⟩) (f3.out h rfl) _).far (p := ⟨G11, 2, none⟩) (f3.out h rfl) _).far (p := ⟨G11, 3, none⟩) (f3.out h rfl) _)⟩, fun _ => ⟨hle, by simpa using hlt, by simp, fun _ => bS.set4 (.int .i64 q.num) (.int .i64 (q.den : Int)) (.int .i64 v) (.int .i64 1)⟩, f3.out⟩
  case done =>
    rintro Lb a W ⟨j0, j1, j2, j3, j4, j5, j6, j7, j8, j9, j10, j11, j12, j13, G10, G11, rfl, rfl, -, -, f0, f1, f2, f3⟩ hall
    obtain rfl : j0 = true := hall 0 (by decide)
    obtain rfl : j1 = true := hall 1 (by decide)
    obtain rfl : j2 = true := hall 2 (by decide)
    obtain rfl : j3 = true := hall 3 (by decide)
    obtain rfl : j4 = true := hall 4 (by decide)
    obtain rfl : j5 = true := hall 5 (by decide)
    obtain rfl : j6 = true := hall 6 (by decide)
    obtain rfl : j7 = true := hall 7 (by decide)
    obtain rfl : j8 = true := hall 8 (by decide)
    obtain rfl : j9 = true := hall 9 (by decide)
    obtain rfl : j10 = true := hall 10 (by decide)
    obtain rfl : j11 = true := hall 11 (by decide)
    obtain rfl : j12 = true := hall 12 (by decide)
    obtain rfl : j13 = true := hall 13 (by decide)
    clear hall
    obtain ⟨-, -, -, hb16⟩ := f1 rfl
    obtain ⟨-, -, -, hb17⟩ := f2 rfl
    replace hb16 := hb16 rfl
    replace hb17 := hb17 rfl
    replace K := ((K.keep f0).add (cl_box G10 _ _) hb16).add (cl_box G11 _ _) hb17
    clear f0 f1 f2 f3 hb16 hb17 p0 p1 q0 q1 l12 l14
    simp only [cond_true]
    have s0 := (K.get 1 rfl).cell 0
    have s1 := (K.get 1 rfl).cell 1
    have s2 := (K.get 1 rfl).cell 2
    have s3 := (K.get 1 rfl).cell 3
    have t0 := (K.get 0 rfl).cell 0
    have t1 := (K.get 0 rfl).cell 1
    have t2 := (K.get 0 rfl).cell 2
    have t3 := (K.get 0 rfl).cell 3
    go_wp2_with fail
    (with_reducible refine (HCh.out _).mono ?_); rintro e U5 ⟨rfl, hb⟩
    clear s0 s1 s2 s3 t0 t1 t2 t3
    replace K := ((K.keep hb).alloc (.cells #[.int .i64 M.num, .int .i64 (M.den : Int), .int .i64 (d + v), .int .i64 1] 26)).add (cl_box U5.heap.size _ _) (BoxN.new U5 26 #[.int .i64 M.num, .int .i64 (M.den : Int), .int .i64 (d + v), .int .i64 1])
    clear hb
    have s0 := ((K.alloc (.cells #[.slice Aa 1 ca] 29)).get 0 rfl).cell 0
    have s1 := ((K.alloc (.cells #[.slice Aa 1 ca] 29)).get 0 rfl).cell 1
    have s2 := ((K.alloc (.cells #[.slice Aa 1 ca] 29)).get 0 rfl).cell 2
    have s3 := ((K.alloc (.cells #[.slice Aa 1 ca] 29)).get 0 rfl).cell 3
    go_wp2_with fail
    (with_reducible refine (H2.out _ _ _ (isL_one (by simp) (K.get 5 rfl) (by simp) 29 1 rfl)).mono ?_); rintro e U6 ⟨rfl, hb⟩
    clear s0 s1 s2 s3
    replace K := ((K.alloc (.cells #[.slice Aa 1 ca] 29)).keep hb).box a2 b2
    clear hb
    have s0 := ((K.alloc (.cells #[.slice Aa 1 ca] 29)).get 3 rfl).cell 0
    have s1 := ((K.alloc (.cells #[.slice Aa 1 ca] 29)).get 3 rfl).cell 1
    have s2 := ((K.alloc (.cells #[.slice Aa 1 ca] 29)).get 3 rfl).cell 2
    have s3 := ((K.alloc (.cells #[.slice Aa 1 ca] 29)).get 3 rfl).cell 3
    go_wp2_with fail
    (with_reducible refine (H1.out _ _ _ (isL_one (by simp) (K.get 6 rfl) (by simp) 29 1 rfl)).mono ?_); rintro e U7 ⟨rfl, hb⟩
    clear s0 s1 s2 s3
    replace K := ((K.alloc (.cells #[.slice Aa 1 ca] 29)).keep hb).box a1 b1
    clear hb
    by_cases hlt : M < x.r
    · rw [if_pos hlt] at hd2
      simp only [Prod.mk.injEq] at hd2
      obtain ⟨rfl, rfl, rfl⟩ := hd2
      clear hlt hd1 hpq hqq hM
      go_wp2_with fail
      (with_reducible refine (HW.out _).mono ?_); rintro e Z ⟨rfl, hb⟩
      have hB := Lib.hid (K.keep hb).b
      clear K hb
      go_wp2
      go_ret
      exact ⟨rfl, hB.out⟩
    have hMp : M ≤ p := by rw [← hM]; unfold minq; split <;> grind
    have hMq : M ≤ q := by rw [← hM]; unfold minq; split <;> grind
    rw [if_neg hlt] at hd2
    rw [if_neg (show ¬ p < x.r by grind)] at hd1
    obtain ⟨m, e2, hm, fmm⟩ := hd2
    obtain ⟨f, e1, hf, hfg⟩ := hd1
    simp only [Prod.mk.injEq] at e1 e2
    obtain ⟨rfl, rfl, rfl⟩ := e2
    obtain ⟨rfl, rfl, rfl⟩ := e1
    have ff : Fit f := gd_fit hfg (by omega) (by omega) (by omega)
    have HAz : Hid (∀ W : World, _) := fun W => add_zero f ff _ _ rfl rfl W
    have f0 := (K.get 0 rfl).c0
    have f1 := (K.get 0 rfl).c1
    go_wp2_with fail
    (with_reducible refine (HSh.out _ _ f _ ff hf.nn (K.get 7 rfl)).mono ?_); rintro e U8 ⟨⟨hy, hno⟩, hb⟩
    clear f0 f1
    replace K := K.keep hb
    clear hb
    by_cases hok : okv x f
    · obtain ⟨v8, rfl, hown⟩ := hy hok
      obtain ⟨Ay, cy, rfl, hi⟩ := own_is hown
      clear hy hno hown
      have yb := shiftB_b hf.nn hok
      have yr := shiftB_r hf.nn hok
      obtain ⟨y, hyd⟩ : ∃ y, shiftB f x = y := ⟨_, rfl⟩
      rw [hyd] at hi yb yr
      clear hyd
      obtain ⟨o2, ho2, hs2⟩ := second_is (y := y) (q := q) (L := (v : Rat)) (by rw [yr]; grind)
      have f17 : Fit (v : Rat) := int_fit (by omega)
      have H3 : Hid (∀ (A : Option Addr) (cap : Nat) (W : World), isL A [[y]] W → _) := fun A cap W hI => delay_w (cs := [[y]]) (by simp) fq q0 f17 (Rat.intCast_le_intCast.2 hv.1) 1 rfl _ _ v 1 _ _ _ rfl rfl rfl rfl ho2 A cap W hI
      replace K := K.add (cl_isC Ay cy [y]) hi
      clear hi ho2
      simp only [List.length_cons, List.length_nil, Nat.zero_add]
      have t0 := ((K.alloc (.cells #[.slice Ay 1 cy] 29)).get 4 rfl).cell 0
      have t1 := ((K.alloc (.cells #[.slice Ay 1 cy] 29)).get 4 rfl).cell 1
      have t2 := ((K.alloc (.cells #[.slice Ay 1 cy] 29)).get 4 rfl).cell 2
      have t3 := ((K.alloc (.cells #[.slice Ay 1 cy] 29)).get 4 rfl).cell 3
      go_wp2_with fail
      (with_reducible refine (H3.out _ _ _ (isL_one (by simp) (K.get 0 rfl) (by simp) 29 1 rfl)).mono ?_); rintro e U9 ⟨rfl, hb⟩
      clear t0 t1 t2 t3
      replace K := (K.alloc (.cells #[.slice Ay 1 cy] 29)).keep hb
      clear hb
      cases o2 with
      | none =>
        (try dsimp only)
        replace K := K.box 0 0
        have f0 := (K.get 2 rfl).c0
        have f1 := (K.get 2 rfl).c1
        have g0 := (K.get 0 rfl).c0
        have g1 := (K.get 0 rfl).c1
        go_wp2_with fail
        (with_reducible refine (HAz.out _).mono ?_); rintro e V1 ⟨rfl, hb⟩
        clear f0 f1 g0 g1
        replace K := (K.keep hb).box 0 0
        clear hb
        go_wp2_with fail
        (with_reducible refine (HW.out _).mono ?_); rintro e Z ⟨rfl, hb⟩
        have hB := Lib.hid (K.keep hb).b
        clear K hb
        go_wp2
        go_ret
        exact ⟨rfl, hB.out⟩
      | some sv =>
        obtain ⟨fs, s0, hsl⟩ := hs2 sv rfl
        (try dsimp only)
        replace K := K.box sv.num sv.den
        have HAd : Hid (∀ W : World, _) := fun W => add_r ff fs W
        have f0 := (K.get 2 rfl).c0
        have f1 := (K.get 2 rfl).c1
        have g0 := (K.get 0 rfl).c0
        have g1 := (K.get 0 rfl).c1
        by_cases hfs : Fit (f + sv)
        · rw [ofR_yes hfs] at HAd
          simp only [ratV] at HAd
          have hle : cmpQ m (f + sv) ≤ 0 := cmpQ_le.2 (by
            rw [← hM] at hm
            rw [yb] at hsl
            rw [Rat.intCast_add] at hm
            exact chain_le p0 q0 (by rw [hM]; grind) (Rat.intCast_le_intCast.2 hd.1) (Rat.intCast_le_intCast.2 hv.1) hm hf hsl)
          have HC : Hid (∀ W : World, _) := fun W => cmp_r fmm hfs W
          generalize cmpQ m (f + sv) = kk at HC hle
          go_wp2_with fail
          (with_reducible refine (HAd.out _).mono ?_); rintro e V1 ⟨rfl, hb⟩
          clear f0 f1 g0 g1
          replace K := (K.keep hb).box (f + sv).num (f + sv).den
          clear hb
          have f0 := (K.get 4 rfl).c0
          have f1 := (K.get 4 rfl).c1
          have g0 := (K.get 0 rfl).c0
          have g1 := (K.get 0 rfl).c1
          go_wp2_with fail
          (with_reducible refine (HC.out _).mono ?_); rintro e V2 ⟨rfl, hb⟩
          clear f0 f1 g0 g1
          replace K := K.keep hb.b
          clear hb
          go_wp2_with fail
          (with_reducible refine (HW.out _).mono ?_); rintro e Z ⟨rfl, hb⟩
          have hB := Lib.hid (K.keep hb).b
          clear K hb
          go_wp2
          go_ret
          exact ⟨rfl, hB.out⟩
        · rw [ofR_no hfs] at HAd
          simp only [ratV] at HAd
          go_wp2_with fail
          (with_reducible refine (HAd.out _).mono ?_); rintro e V1 ⟨rfl, hb⟩
          clear f0 f1 g0 g1
          replace K := (K.keep hb).box 0 0
          clear hb
          go_wp2_with fail
          (with_reducible refine (HW.out _).mono ?_); rintro e Z ⟨rfl, hb⟩
          have hB := Lib.hid (K.keep hb).b
          clear K hb
          go_wp2
          go_ret
          exact ⟨rfl, hB.out⟩
    · obtain rfl := hno hok
      clear hy hno
      have t0 := ((K.alloc (.cells #[.slice none 0 0] 29)).get 3 rfl).cell 0
      have t1 := ((K.alloc (.cells #[.slice none 0 0] 29)).get 3 rfl).cell 1
      have t2 := ((K.alloc (.cells #[.slice none 0 0] 29)).get 3 rfl).cell 2
      have t3 := ((K.alloc (.cells #[.slice none 0 0] 29)).get 3 rfl).cell 3
      go_wp2_with fail
      (with_reducible refine (HDn.out _).mono ?_); rintro e U9 ⟨rfl, hb⟩
      clear t0 t1 t2 t3
      replace K := ((K.alloc (.cells #[.slice none 0 0] 29)).keep (by rw [World.size_alloc]; exact hb)).box 0 0
      clear hb
      have f0 := (K.get 1 rfl).c0
      have f1 := (K.get 1 rfl).c1
      have g0 := (K.get 0 rfl).c0
      have g1 := (K.get 0 rfl).c1
      go_wp2_with fail
      (with_reducible refine (HAz.out _).mono ?_); rintro e V1 ⟨rfl, hb⟩
      clear f0 f1 g0 g1
      replace K := (K.keep hb).box 0 0
      clear hb
      go_wp2_with fail
      (with_reducible refine (HW.out _).mono ?_); rintro e Z ⟨rfl, hb⟩
      have hB := Lib.hid (K.keep hb).b
      clear K hb
      go_wp2
      go_ret
      exact ⟨rfl, hB.out⟩
end Go.Proofs.YtcfbccdicgeddaaGreat.ChLaw
