/- CurveConcave returns true. -/
import Derived.Test.YthkgmgochgjpoaaSg
import Derived.Test.YthkgmgochgjpoaaAwake
namespace Go.Proofs.Ythkgmgochgjpoaa.Concave
open Go.RowKit Go.Joins Go.Shelf Go.Sort Num

theorem math {c : List Buck} (hc : c ≠ []) {x d : Rat} (hd : 0 ≤ d) :
    0 ≤ minV c (x + d) - minV c x ∧ minV c (x + d + d) - minV c (x + d) ≤ minV c (x + d) - minV c x ∧ rateL c * d ≤ minV c (x + d) - minV c x := by
  obtain ⟨b, hb, h⟩ := minV_at hc (x + d)
  have h1 := minV_le (t := x) hb
  have h2 := minV_le (t := x + d + d) hb
  have h3 := Rat.mul_le_mul_of_nonneg_right (rateL_le hb) hd
  have h4 := Rat.mul_nonneg b.pr hd
  unfold valQ at h h1 h2
  refine ⟨by grind, by grind, by grind⟩

set_option maxRecDepth 100000 in
set_option maxHeartbeats 8000000 in
theorem walk (A : Option Addr) (cap : Nat) (zs : List Int) (n m : Int) (w : World) (hz : Nums w A zs) (hn0 : 0 ≤ n) (hn1 : n ≤ 65535) (hm0 : 0 ≤ m) (hm1 : m ≤ 65535) :
    Calls Try.prog 4 #[.slice A zs.length cap, .int .u16 n, .int .u16 m] w fun e w' => e = .returned (.bool true) ∧ Below w.heap.size w w' := by
  have HS := small_yes A cap zs w w hz (Below.refl _ _)
  have HP : Hid (∀ W : World, _) := fun W => point_any n hn0 hn1 W
  have HQ : Hid (∀ W : World, _) := fun W => point_any m hm0 hm1 W
  have HW : Hid (∀ W : World, _) := fun W => Aw.walk W
  have gx := ptQ_gd n
  have gd := ptQ_gd m
  have px := ptQ_nonneg n
  have pd := ptQ_nonneg m
  have hc := small_ne zs
  have hsg := small_sg zs
  have hl1 := (small_len zs).1
  have hl2 : (small zs).length ≤ 32 := Nat.le_trans (small_len zs).2 (by decide)
  clear hz
  generalize small zs = c at HS hc hsg hl1 hl2
  generalize ptQ n = x at HP gx px
  generalize ptQ m = d at HQ gd pd
  have gy := gd_add gx gd
  have gz := gd_add gy gd
  have py : 0 ≤ x + d := Rat.add_nonneg px pd
  have pz : 0 ≤ x + d + d := Rat.add_nonneg py pd
  obtain ⟨M1, M2, M3⟩ := math hc (x := x) pd
  have ga := sg_min hc hsg gx
  have gb := sg_min hc hsg gy
  have gk := sg_min hc hsg gz
  have fx : Fit x := gd_fit gx (by decide) (by decide) (by decide)
  have fd : Fit d := gd_fit gd (by decide) (by decide) (by decide)
  have fy : Fit (x + d) := gd_fit gy (by decide) (by decide) (by decide)
  have fz : Fit (x + d + d) := gd_fit gz (by decide) (by decide) (by decide)
  have fa : Fit (minV c x) := gd_fit ga (by decide) (by decide) (by decide)
  have fb : Fit (minV c (x + d)) := gd_fit gb (by decide) (by decide) (by decide)
  have fk : Fit (minV c (x + d + d)) := gd_fit gk (by decide) (by decide) (by decide)
  have f1 : Fit (minV c (x + d) - minV c x) := gd_fit (gd_sub gb ga) (by decide) (by decide) (by decide)
  have f2 : Fit (minV c (x + d + d) - minV c (x + d)) := gd_fit (gd_sub gk gb) (by decide) (by decide) (by decide)
  have gr : Gd 8 40 (rateL c) := by obtain ⟨b, hb, e⟩ := rateL_at hc; rw [e]; exact (hsg b hb).r
  have fr : Fit (rateL c) := gd_fit gr (by decide) (by decide) (by decide)
  have fl : Fit (rateL c * d) := gd_fit (gd_mul (D := 8) (E := 4) gr gd) (by decide) (by decide) (by decide)
  have HAy : Hid (∀ W : World, _) := fun W => add_yes fx fd fy W
  have HAz : Hid (∀ W : World, _) := fun W => add_yes fy fd fz W
  have HVx : Hid (∀ (A : Option Addr) (ca : Nat) (W : World), isC A ca c W → _) := fun A ca W hi => at_any x W hi hl1 hl2 fx px (fun b hb => sg_ok (hsg b hb) gx (by decide)) _ rfl
  have HVy : Hid (∀ (A : Option Addr) (ca : Nat) (W : World), isC A ca c W → _) := fun A ca W hi => at_any (x + d) W hi hl1 hl2 fy py (fun b hb => sg_ok (hsg b hb) gy (by decide)) _ rfl
  have HVz : Hid (∀ (A : Option Addr) (ca : Nat) (W : World), isC A ca c W → _) := fun A ca W hi => at_any (x + d + d) W hi hl1 hl2 fz pz (fun b hb => sg_ok (hsg b hb) gz (by decide)) _ rfl
  have HR : Hid (∀ (A : Option Addr) (ca : Nat) (W : World), isC A ca c W → _) := fun A ca W hi => rate_yes hi hl1 hl2 _ rfl _ _ rfl rfl
  have HU1 : Hid (∀ W : World, _) := fun W => sub_yes fb fa f1 W
  have HU2 : Hid (∀ W : World, _) := fun W => sub_yes fk fb f2 W
  have HM : Hid (∀ W : World, _) := fun W => mul_yes fr fd fl W
  have HC1 : Hid (∀ W : World, _) := fun W => cmp_r f2 f1 W
  have HC2 : Hid (∀ W : World, _) := fun W => cmp_r f1 fl W
  have d0 : 0 ≤ (minV c (x + d) - minV c x).num := Rat.num_nonneg.2 M1
  have d1 : cmpQ (minV c (x + d + d) - minV c (x + d)) (minV c (x + d) - minV c x) ≤ 0 := cmpQ_le.2 M2
  have d2 : 0 ≤ cmpQ (minV c (x + d) - minV c x) (rateL c * d) := (by
    unfold cmpQ
    split
    · next h => exact absurd h (Rat.not_lt.2 M3)
    · split <;> decide)
  clear M1 M2 M3 gx gd gy gz px pd py pz ga gb gk fx fd fy fz fa fb fk f1 f2 gr fr fl hsg hl1 hl2 hc hn0 hn1 hm0 hm1
  generalize cmpQ (minV c (x + d + d) - minV c (x + d)) (minV c (x + d) - minV c x) = k1 at HC1 d1
  generalize cmpQ (minV c (x + d) - minV c x) (rateL c * d) = k2 at HC2 d2
  generalize minV c (x + d + d) - minV c (x + d) = two at HU2 HC1
  generalize minV c (x + d) - minV c x = one at HU1 HC1 HC2 d0
  generalize rateL c * d = least at HM HC2
  generalize rateL c = r at HR HM
  generalize minV c (x + d + d) = vk at HVz HU2
  generalize minV c (x + d) = vb at HVy HU1 HU2
  generalize minV c x = va at HVx HU1
  generalize x + d + d = z at HAz HVz
  generalize x + d = y at HAy HAz HVy
  have K := Kept.start w
  go_enter Try.func4, Try.ntmps4
  go_wp2_with fail
  (with_reducible refine HS.mono ?_); rintro e V0 ⟨Ac, cc, rfl, hi, hb⟩
  replace K := (K.keep hb).add (cl_isC Ac cc c) hi
  clear hi hb HS
  go_wp2_with fail
  (with_reducible refine (HP.out _).mono ?_); rintro e V0' ⟨rfl, hb⟩
  replace K := K.keep hb
  clear hb
  go_wp2_with fail
  (with_reducible refine (HQ.out _).mono ?_); rintro e V0'' ⟨rfl, hb⟩
  replace K := (K.keep hb).box2 x.num x.den d.num d.den
  clear hb
  have x0 := (K.get 1 rfl).c0
  have x1 := (K.get 1 rfl).c1
  have d0 := (K.get 0 rfl).c0
  have d1 := (K.get 0 rfl).c1
  go_wp2_with fail
  (with_reducible refine (HAy.out _).mono ?_); rintro e V1 ⟨rfl, hb⟩
  clear x0 x1 d0 d1
  replace K := (K.keep hb).box y.num y.den
  clear hb
  have y0 := (K.get 0 rfl).c0
  have y1 := (K.get 0 rfl).c1
  have d0 := (K.get 1 rfl).c0
  have d1 := (K.get 1 rfl).c1
  go_wp2_with fail
  (with_reducible refine (HAz.out _).mono ?_); rintro e V2 ⟨rfl, hb⟩
  clear y0 y1 d0 d1
  replace K := (K.keep hb).box z.num z.den
  clear hb
  have x0 := (K.get 3 rfl).c0
  have x1 := (K.get 3 rfl).c1
  go_wp2_with fail
  (with_reducible refine (HVx.out _ _ _ (K.get 4 rfl)).mono ?_); rintro e V3 ⟨rfl, hb⟩
  clear x0 x1
  replace K := (K.keep hb).box va.num va.den
  clear hb
  have y0 := (K.get 2 rfl).c0
  have y1 := (K.get 2 rfl).c1
  go_wp2_with fail
  (with_reducible refine (HVy.out _ _ _ (K.get 5 rfl)).mono ?_); rintro e V4 ⟨rfl, hb⟩
  clear y0 y1
  replace K := (K.keep hb).box vb.num vb.den
  clear hb
  have z0 := (K.get 2 rfl).c0
  have z1 := (K.get 2 rfl).c1
  go_wp2_with fail
  (with_reducible refine (HVz.out _ _ _ (K.get 6 rfl)).mono ?_); rintro e V5 ⟨rfl, hb⟩
  clear z0 z1
  replace K := (K.keep hb).box vk.num vk.den
  clear hb
  have vb0 := (K.get 1 rfl).c0
  have vb1 := (K.get 1 rfl).c1
  have va0 := (K.get 2 rfl).c0
  have va1 := (K.get 2 rfl).c1
  go_wp2_with fail
  (with_reducible refine (HU1.out _).mono ?_); rintro e V6 ⟨rfl, hb⟩
  clear vb0 vb1 va0 va1
  replace K := (K.keep hb).box one.num one.den
  clear hb
  have vk0 := (K.get 1 rfl).c0
  have vk1 := (K.get 1 rfl).c1
  have vb0 := (K.get 2 rfl).c0
  have vb1 := (K.get 2 rfl).c1
  go_wp2_with fail
  (with_reducible refine (HU2.out _).mono ?_); rintro e V7 ⟨rfl, hb⟩
  clear vk0 vk1 vb0 vb1
  replace K := (K.keep hb).box two.num two.den
  clear hb
  go_wp2_with fail
  (with_reducible refine (HR.out _ _ _ (K.get 9 rfl)).mono ?_); rintro e V8 ⟨rfl, hb⟩
  replace K := (K.keep hb).box r.num r.den
  clear hb
  have r0 := (K.get 0 rfl).c0
  have r1 := (K.get 0 rfl).c1
  have d0 := (K.get 8 rfl).c0
  have d1 := (K.get 8 rfl).c1
  go_wp2_with fail
  (with_reducible refine (HM.out _).mono ?_); rintro e V9 ⟨rfl, hb⟩
  clear r0 r1 d0 d1
  replace K := (K.keep hb).box least.num least.den
  clear hb
  have one0 := (K.get 3 rfl).c0
  have one1 := (K.get 3 rfl).c1
  have two0 := (K.get 2 rfl).c0
  have two1 := (K.get 2 rfl).c1
  go_wp2_with fail
  (with_reducible refine (HC1.out _).mono ?_); rintro e V10 ⟨rfl, hb⟩
  clear one0 one1 two0 two1
  replace K := K.keep hb.b
  clear hb
  have one0 := (K.get 3 rfl).c0
  have one1 := (K.get 3 rfl).c1
  have least0 := (K.get 0 rfl).c0
  have least1 := (K.get 0 rfl).c1
  go_wp2_with fail
  (with_reducible refine (HC2.out _).mono ?_); rintro e V11 ⟨rfl, hb⟩
  clear one0 one1 least0 least1
  replace K := K.keep hb.b
  clear hb
  go_wp2_with fail
  (with_reducible refine (HW.out _).mono ?_); rintro e V12 ⟨rfl, hb⟩
  replace K := K.keep hb
  clear hb
  have hB := Lib.hid K.b
  clear K
  go_wp2
  go_ret
  exact ⟨rfl, hB.out⟩
end Go.Proofs.Ythkgmgochgjpoaa.Concave
