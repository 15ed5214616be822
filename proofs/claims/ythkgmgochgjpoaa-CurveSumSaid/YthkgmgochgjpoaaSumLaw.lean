/- CurveSum returns true. -/
import Derived.Test.YthkgmgochgjpoaaSg
import Derived.Test.YthkgmgochgjpoaaAwake
namespace Go.Proofs.Ythkgmgochgjpoaa.SumLaw
open Go.RowKit Go.Joins Go.Shelf Go.Sort Num

set_option maxRecDepth 100000 in
set_option maxHeartbeats 8000000 in
theorem walk (A : Option Addr) (cap : Nat) (zs : List Int) (B : Option Addr) (cap2 : Nat) (us : List Int) (n m : Int) (w : World) (hz : Nums w A zs) (hu : Nums w B us) (hn0 : 0 ≤ n) (hn1 : n ≤ 65535) (hm0 : 0 ≤ m) (hm1 : m ≤ 65535) :
    Calls Try.prog 3 #[.slice A zs.length cap, .slice B us.length cap2, .int .u16 n, .int .u16 m] w fun e w' => e = .returned (.bool true) ∧ Below w.heap.size w w' := by
  have HS := small_yes A cap zs w w hz (Below.refl _ _)
  have HT : Hid (∀ W : World, Below w.heap.size w W → _) := fun W hb => small_yes B cap2 us w W hu hb
  have HP : Hid (∀ W : World, _) := fun W => point_any n hn0 hn1 W
  have HQ : Hid (∀ W : World, _) := fun W => point_any m hm0 hm1 W
  have HW : Hid (∀ W : World, _) := fun W => Aw.walk W
  have gx := ptQ_gd n
  have gy := ptQ_gd m
  have px := ptQ_nonneg n
  have py := ptQ_nonneg m
  have hca := small_ne zs
  have hcb := small_ne us
  have sga := small_sg zs
  have sgb := small_sg us
  have ha1 := (small_len zs).1
  have ha4 := (small_len zs).2
  have hb1 := (small_len us).1
  have hb4 := (small_len us).2
  clear hz hu
  generalize small zs = a at HS hca sga ha1 ha4
  generalize small us = b at HT hcb sgb hb1 hb4
  generalize ptQ n = x at HP gx px
  generalize ptQ m = y at HQ gy py
  have ha2 : a.length ≤ 32 := by omega
  have hb2 : b.length ≤ 32 := by omega
  have gz := gd_add gx gy
  have pz : 0 ≤ x + y := Rat.add_nonneg px py
  have fx : Fit x := gd_fit gx (by decide) (by decide) (by decide)
  have fy : Fit y := gd_fit gy (by decide) (by decide) (by decide)
  have fz : Fit (x + y) := gd_fit gz (by decide) (by decide) (by decide)
  have na4 : (normL a).length ≤ 4 := Nat.le_trans (normL_len a) ha4
  have nb4 : (normL b).length ≤ 4 := Nat.le_trans (normL_len b) hb4
  have hab : (normL a).length * (normL b).length ≤ 16 := Nat.mul_le_mul na4 nb4
  have hpair : ∀ p ∈ pairsL (normL a) (normL b), oka p ∧ Sg 6400 80 (addB p) := fun p hp => by
    obtain ⟨h1, h2⟩ := pairsL_mem.1 hp
    exact sg_add (sg_norm sga _ h1) (sg_norm sgb _ h2) (by decide) (by decide)
  have hoka : ∀ p ∈ pairsL (normL a) (normL b), oka p := fun p hp => (hpair p hp).1
  have sgS0 : ∀ z ∈ (pairsL (normL a) (normL b)).map addB, Sg 6400 80 z := fun z hz => by
    obtain ⟨p, hp, rfl⟩ := List.mem_map.1 hz
    exact (hpair p hp).2
  have hS0 : (pairsL (normL a) (normL b)).map addB ≠ [] := by
    intro h
    have h3 := congrArg List.length h
    rw [List.length_map, pairs_length] at h3
    have h1 := List.length_pos_iff.2 (normL_ne hca)
    have h2 := List.length_pos_iff.2 (normL_ne hcb)
    have h4 := Nat.mul_pos h1 h2
    rw [h3] at h4
    simp at h4
  have sgS := sg_norm sgS0
  have hS := normL_ne hS0
  have hSl : (normL ((pairsL (normL a) (normL b)).map addB)).length ≤ 16 := by
    have := normL_len ((pairsL (normL a) (normL b)).map addB)
    rw [List.length_map, pairs_length] at this
    omega
  have vS : minV (normL ((pairsL (normL a) (normL b)).map addB)) x = minV a x + minV b x := by
    rw [minV_norm hS0 px, minV_pairs (normL_ne hca) (normL_ne hcb) hoka, minV_norm hca px, minV_norm hcb px]
  have HSum : Hid (∀ (A B : Option Addr) (ca cb : Nat) (W : World), isC A ca a W → isC B cb b W → _) := fun A B ca cb W h1 h2 => sum_yes _ h1 ha1 ha2 h2 hb1 hb2 rfl rfl (by omega) hoka rfl rfl _ _ rfl rfl
  generalize normL ((pairsL (normL a) (normL b)).map addB) = S at HSum sgS hS hSl vS
  have hLa : a ++ b ≠ [] := by simp [hca]
  have sgL := sg_norm (c := a ++ b) (B := 3200) (R := 40) (fun z hz => by
    rcases List.mem_append.1 hz with h | h
    · exact sga z h
    · exact sgb z h)
  have hL := normL_ne hLa
  have hLl : (normL (a ++ b)).length ≤ 8 := by have := normL_len (a ++ b); rw [List.length_append] at this; omega
  have vL : minV (normL (a ++ b)) x = if minV b x < minV a x then minV b x else minV a x := by rw [minV_norm hLa px, minV_append hca hcb]
  have HMin : Hid (∀ (A B : Option Addr) (ca cb : Nat) (W : World), isC A ca a W → isC B cb b W → _) := fun A B ca cb W h1 h2 => min_yes _ h1 ha1 ha2 h2 hb1 hb2 rfl (by omega) rfl _ _ rfl rfl
  generalize normL (a ++ b) = L at HMin sgL hL hLl vL
  have okAy : ∀ z ∈ a, okv z y := fun z hz => sg_ok (sga z hz) gy (by decide)
  have sgM := sg_norm (c := a.map (shiftB y)) (fun z hz => by
    obtain ⟨b', hb', rfl⟩ := List.mem_map.1 hz
    exact sg_shift (sga b' hb') gy py (by decide))
  have hM0 : a.map (shiftB y) ≠ [] := by simp [hca]
  have hM := normL_ne hM0
  have hMl : (normL (a.map (shiftB y))).length ≤ 4 := by have := normL_len (a.map (shiftB y)); rw [List.length_map] at this; omega
  have vM : minV (normL (a.map (shiftB y))) x = minV a (x + y) := by rw [minV_norm hM0 px, minV_shift hca py okAy]
  have HShift : Hid (∀ (A : Option Addr) (ca : Nat) (W : World), isC A ca a W → _) := fun A ca W hi => shift_yes y _ hi ha1 ha2 fy py okAy rfl rfl _ rfl _ _ rfl rfl
  generalize normL (a.map (shiftB y)) = M at HShift sgM hM hMl vM
  have sgF := sg_norm sga
  have hF := normL_ne hca
  have vF : minV (normL a) x = minV a x := minV_norm hca px
  have HNorm : Hid (∀ (A : Option Addr) (ca : Nat) (W : World), isC A ca a W → _) := fun A ca W hi => norm_yes _ hi ha1 ha2 rfl rfl _ rfl
  clear hpair hoka sgS0 hS0 hab hLa hM0 okAy
  generalize normL a = F at HNorm sgF hF vF na4
  have HAdd : Hid (∀ W : World, _) := fun W => add_yes fx fy fz W
  have HVa : Hid (∀ (A : Option Addr) (ca : Nat) (W : World), isC A ca a W → _) := fun A ca W hi => at_any x W hi ha1 ha2 fx px (fun z hz => sg_ok (sga z hz) gx (by decide)) _ rfl
  have HVb : Hid (∀ (A : Option Addr) (ca : Nat) (W : World), isC A ca b W → _) := fun A ca W hi => at_any x W hi hb1 hb2 fx px (fun z hz => sg_ok (sgb z hz) gx (by decide)) _ rfl
  have HVs : Hid (∀ (A : Option Addr) (ca : Nat) (W : World), isC A ca S W → _) := fun A ca W hi => at_any x W hi (List.length_pos_iff.2 hS) (by omega) fx px (fun z hz => sg_ok (sgS z hz) gx (by decide)) _ rfl
  have HVl : Hid (∀ (A : Option Addr) (ca : Nat) (W : World), isC A ca L W → _) := fun A ca W hi => at_any x W hi (List.length_pos_iff.2 hL) (by omega) fx px (fun z hz => sg_ok (sgL z hz) gx (by decide)) _ rfl
  have HVm : Hid (∀ (A : Option Addr) (ca : Nat) (W : World), isC A ca M W → _) := fun A ca W hi => at_any x W hi (List.length_pos_iff.2 hM) (by omega) fx px (fun z hz => sg_ok (sgM z hz) gx (by decide)) _ rfl
  have HVx : Hid (∀ (A : Option Addr) (ca : Nat) (W : World), isC A ca a W → _) := fun A ca W hi => at_any (x + y) W hi ha1 ha2 fz pz (fun z hz => sg_ok (sga z hz) gz (by decide)) _ rfl
  have HVf : Hid (∀ (A : Option Addr) (ca : Nat) (W : World), isC A ca F W → _) := fun A ca W hi => at_any x W hi (List.length_pos_iff.2 hF) (by omega) fx px (fun z hz => sg_ok (sgF z hz) gx (by decide)) _ rfl
  rw [vS] at HVs
  rw [vL] at HVl
  rw [vM] at HVm
  rw [vF] at HVf
  have ga := sg_min hca sga gx
  have gb := sg_min hcb sgb gx
  have fa : Fit (minV a x) := gd_fit ga (by decide) (by decide) (by decide)
  have fb : Fit (minV b x) := gd_fit gb (by decide) (by decide) (by decide)
  have HBoth : Hid (∀ W : World, _) := fun W => add_yes fa fb (gd_fit (gd_add ga gb) (by decide) (by decide) (by decide)) W
  have HC : Hid (∀ W : World, _) := fun W => cmp_r fb fa W
  have hcmp : cmpQ (minV b x) (minV a x) < 0 ↔ minV b x < minV a x := cmpQ_neg
  clear vS vL vM vF gx gy gz px py pz ga gb fx fy fz fa fb sga sgb sgS sgL sgM sgF hca hcb hS hL hM hF ha1 ha2 ha4 hb1 hb2 hb4 hSl hLl hMl na4 nb4 hn0 hn1 hm0 hm1
  generalize cmpQ (minV b x) (minV a x) = k1 at HC hcmp
  generalize minV a (x + y) = vx at HVx HVm
  generalize x + y = z at HAdd HVx
  generalize minV a x + minV b x = both at HBoth HVs
  generalize minV b x = vb at HVb HVl HBoth HC hcmp
  generalize minV a x = va at HVa HVl HVf HBoth HC hcmp
  replace hcmp := Lib.hid hcmp
  have K := Kept.start w
  by_cases hlt : vb < va
  · rw [if_pos hlt] at HVl
    have hk1 : k1 < 0 := hcmp.out.2 hlt
    clear hlt hcmp
    go_enter Try.func3, Try.ntmps3
    go_wp2_with fail
    (with_reducible refine HS.mono ?_); rintro e U1 ⟨Aa, ca, rfl, hi, hb⟩
    have HT1 := HT.out _ hb
    replace K := (K.keep hb).add (cl_isC Aa ca a) hi
    clear hi hb HS HT
    go_wp2_with fail
    (with_reducible refine HT1.mono ?_); rintro e U2 ⟨Ab, cb, rfl, hi, hb⟩
    replace K := (K.keep hb).add (cl_isC Ab cb b) hi
    clear hi hb HT1
    go_wp2_with fail
    (with_reducible refine (HP.out _).mono ?_); rintro e U3 ⟨rfl, hb⟩
    replace K := K.keep hb
    clear hb
    go_wp2_with fail
    (with_reducible refine (HQ.out _).mono ?_); rintro e U4 ⟨rfl, hb⟩
    replace K := (K.keep hb).box2 x.num x.den y.num y.den
    clear hb
    have x0 := (K.get 1 rfl).c0
    have x1 := (K.get 1 rfl).c1
    have y0 := (K.get 0 rfl).c0
    have y1 := (K.get 0 rfl).c1
    go_wp2_with fail
    (with_reducible refine (HAdd.out _).mono ?_); rintro e V1 ⟨rfl, hb⟩
    clear x0 x1 y0 y1
    replace K := (K.keep hb).box z.num z.den
    clear hb
    go_wp2_with fail
    (with_reducible refine (HSum.out _ _ _ _ _ (K.get 4 rfl) (K.get 3 rfl)).mono ?_); rintro e V2 ⟨AS, cS, rfl, hi, hb⟩
    replace K := (K.keep hb).add (cl_isC AS cS S) hi
    clear hi hb
    go_wp2_with fail
    (with_reducible refine (HMin.out _ _ _ _ _ (K.get 5 rfl) (K.get 4 rfl)).mono ?_); rintro e V3 ⟨AL, cL, rfl, hi, hb⟩
    replace K := (K.keep hb).add (cl_isC AL cL L) hi
    clear hi hb
    have y0 := (K.get 3 rfl).c0
    have y1 := (K.get 3 rfl).c1
    go_wp2_with fail
    (with_reducible refine (HShift.out _ _ _ (K.get 6 rfl)).mono ?_); rintro e V4 ⟨AM, cM, rfl, hi, hb⟩
    clear y0 y1
    replace K := (K.keep hb).add (cl_isC AM cM M) hi
    clear hi hb
    go_wp2_with fail
    (with_reducible refine (HNorm.out _ _ _ (K.get 7 rfl)).mono ?_); rintro e V5 ⟨AF, cF, rfl, hi, hb⟩
    replace K := (K.keep hb).add (cl_isC AF cF F) hi
    clear hi hb
    have x0 := (K.get 6 rfl).c0
    have x1 := (K.get 6 rfl).c1
    go_wp2_with fail
    (with_reducible refine (HVa.out _ _ _ (K.get 8 rfl)).mono ?_); rintro e V6 ⟨rfl, hb⟩
    clear x0 x1
    replace K := (K.keep hb).box va.num va.den
    clear hb
    have x0 := (K.get 7 rfl).c0
    have x1 := (K.get 7 rfl).c1
    go_wp2_with fail
    (with_reducible refine (HVb.out _ _ _ (K.get 8 rfl)).mono ?_); rintro e V7 ⟨rfl, hb⟩
    clear x0 x1
    replace K := (K.keep hb).box vb.num vb.den
    clear hb
    have x0 := (K.get 8 rfl).c0
    have x1 := (K.get 8 rfl).c1
    go_wp2_with fail
    (with_reducible refine (HVs.out _ _ _ (K.get 5 rfl)).mono ?_); rintro e V8 ⟨rfl, hb⟩
    clear x0 x1
    replace K := (K.keep hb).box both.num both.den
    clear hb
    have x0 := (K.get 9 rfl).c0
    have x1 := (K.get 9 rfl).c1
    go_wp2_with fail
    (with_reducible refine (HVl.out _ _ _ (K.get 5 rfl)).mono ?_); rintro e V9 ⟨rfl, hb⟩
    clear x0 x1
    replace K := (K.keep hb).box vb.num vb.den
    clear hb
    have x0 := (K.get 10 rfl).c0
    have x1 := (K.get 10 rfl).c1
    go_wp2_with fail
    (with_reducible refine (HVm.out _ _ _ (K.get 5 rfl)).mono ?_); rintro e V10 ⟨rfl, hb⟩
    clear x0 x1
    replace K := (K.keep hb).box vx.num vx.den
    clear hb
    have z0 := (K.get 9 rfl).c0
    have z1 := (K.get 9 rfl).c1
    go_wp2_with fail
    (with_reducible refine (HVx.out _ _ _ (K.get 13 rfl)).mono ?_); rintro e V11 ⟨rfl, hb⟩
    clear z0 z1
    replace K := (K.keep hb).box vx.num vx.den
    clear hb
    have x0 := (K.get 12 rfl).c0
    have x1 := (K.get 12 rfl).c1
    go_wp2_with fail
    (with_reducible refine (HVf.out _ _ _ (K.get 6 rfl)).mono ?_); rintro e V12 ⟨rfl, hb⟩
    clear x0 x1
    replace K := (K.keep hb).box va.num va.den
    clear hb
    have va0 := (K.get 6 rfl).c0
    have va1 := (K.get 6 rfl).c1
    have vb0 := (K.get 5 rfl).c0
    have vb1 := (K.get 5 rfl).c1
    go_wp2_with fail
    (with_reducible refine (HBoth.out _).mono ?_); rintro e V13 ⟨rfl, hb⟩
    clear va0 va1 vb0 vb1
    replace K := (K.keep hb).box both.num both.den
    clear hb
    have K17 := K
    have hs17 : (V13.alloc (.cells #[.int .i64 both.num, .int .i64 both.den] 28)).heap.size = V13.heap.size + 1 := World.size_alloc _ _
    have q0 := (K17.get 7 rfl).c0
    have q1 := (K17.get 7 rfl).c1
    replace K := K.box va.num va.den
    rw [hs17] at K
    have va0 := (K.get 8 rfl).c0
    have va1 := (K.get 8 rfl).c1
    have vb0 := (K.get 7 rfl).c0
    have vb1 := (K.get 7 rfl).c1
    go_wp2_with fail
    (with_reducible refine (HC.out _).mono ?_); rintro e Y ⟨rfl, hb⟩
    clear va0 va1 vb0 vb1
    clear q0 q1
    have bS := (BoxN.new (V13.alloc (.cells #[.int .i64 both.num, .int .i64 both.den] 28)) 28 #[.int .i64 va.num, .int .i64 va.den]).below hb.b (by simp)
    rw [hs17] at bS
    have hBY := ((Below.refl _ (V13.alloc (.cells #[.int .i64 both.num, .int .i64 both.den] 28))).alloc (Nat.le_refl _) (.cells #[.int .i64 va.num, .int .i64 va.den] 28)).trans (hb.b.mono (by simp))
    have hX := (hBY.setCell (p := ⟨V13.heap.size + 1, 0, none⟩) (by rw [hs17]; exact Nat.le_refl _) (.int .i64 vb.num)).setCell (p := ⟨V13.heap.size + 1, 1, none⟩) (by rw [hs17]; exact Nat.le_refl _) (.int .i64 vb.den)
    have rS := bS.set2 (.int .i64 vb.num) (.int .i64 vb.den)
    have KX := Lib.hid ((K17.keep hX).add (cl_isR (V13.heap.size + 1) vb.num vb.den) ⟨rS.lt, rS.cell 0, rS.cell 1⟩)
    have c0 := bS.cell 0
    have c1 := bS.cell 1
    have g0 := bS.frozen 0
    have g1 := bS.frozen 1
    have kS := bS.lt
    replace K := K.keep hb.b
    have vb0 := (K.get 7 rfl).c0
    have vb1 := (K.get 7 rfl).c1
    have vs0 := (K.get 6 rfl).c0
    have vs1 := (K.get 6 rfl).c1
    have both0 := (K.get 1 rfl).c0
    have both1 := (K.get 1 rfl).c1
    have vl0 := (K.get 5 rfl).c0
    have vl1 := (K.get 5 rfl).c1
    have vm0 := (K.get 4 rfl).c0
    have vm1 := (K.get 4 rfl).c1
    have vx0 := (K.get 3 rfl).c0
    have vx1 := (K.get 3 rfl).c1
    have vf0 := (K.get 2 rfl).c0
    have vf1 := (K.get 2 rfl).c1
    have va0 := (K.get 8 rfl).c0
    have va1 := (K.get 8 rfl).c1
    have nvs := (K17.get 5 rfl).lt
    rw [hs17] at nvs
    have mvs := Nat.ne_of_lt nvs
    replace nvs := Nat.ne_of_gt nvs
    have nboth := (K17.get 0 rfl).lt
    rw [hs17] at nboth
    have mboth := Nat.ne_of_lt nboth
    replace nboth := Nat.ne_of_gt nboth
    have nvl := (K17.get 4 rfl).lt
    rw [hs17] at nvl
    have mvl := Nat.ne_of_lt nvl
    replace nvl := Nat.ne_of_gt nvl
    have nvm := (K17.get 3 rfl).lt
    rw [hs17] at nvm
    have mvm := Nat.ne_of_lt nvm
    replace nvm := Nat.ne_of_gt nvm
    have nvx := (K17.get 2 rfl).lt
    rw [hs17] at nvx
    have mvx := Nat.ne_of_lt nvx
    replace nvx := Nat.ne_of_gt nvx
    have nvf := (K17.get 1 rfl).lt
    rw [hs17] at nvf
    have mvf := Nat.ne_of_lt nvf
    replace nvf := Nat.ne_of_gt nvf
    have nva := (K17.get 7 rfl).lt
    rw [hs17] at nva
    have mva := Nat.ne_of_lt nva
    replace nva := Nat.ne_of_gt nva
    clear hb hBY hX rS bS K17 K hs17
    go_wp2_with fail
    (with_reducible refine (HW.out _).mono ?_); rintro e Z ⟨rfl, hb⟩
    have hB := Lib.hid (KX.out.keep hb).b
    clear hb
    go_wp2
    go_ret
    exact ⟨rfl, hB.out⟩
  · rw [if_neg hlt] at HVl
    have hk1 : ¬ k1 < 0 := fun h => hlt (hcmp.out.1 h)
    clear hlt hcmp
    go_enter Try.func3, Try.ntmps3
    go_wp2_with fail
    (with_reducible refine HS.mono ?_); rintro e U1 ⟨Aa, ca, rfl, hi, hb⟩
    have HT1 := HT.out _ hb
    replace K := (K.keep hb).add (cl_isC Aa ca a) hi
    clear hi hb HS HT
    go_wp2_with fail
    (with_reducible refine HT1.mono ?_); rintro e U2 ⟨Ab, cb, rfl, hi, hb⟩
    replace K := (K.keep hb).add (cl_isC Ab cb b) hi
    clear hi hb HT1
    go_wp2_with fail
    (with_reducible refine (HP.out _).mono ?_); rintro e U3 ⟨rfl, hb⟩
    replace K := K.keep hb
    clear hb
    go_wp2_with fail
    (with_reducible refine (HQ.out _).mono ?_); rintro e U4 ⟨rfl, hb⟩
    replace K := (K.keep hb).box2 x.num x.den y.num y.den
    clear hb
    have x0 := (K.get 1 rfl).c0
    have x1 := (K.get 1 rfl).c1
    have y0 := (K.get 0 rfl).c0
    have y1 := (K.get 0 rfl).c1
    go_wp2_with fail
    (with_reducible refine (HAdd.out _).mono ?_); rintro e V1 ⟨rfl, hb⟩
    clear x0 x1 y0 y1
    replace K := (K.keep hb).box z.num z.den
    clear hb
    go_wp2_with fail
    (with_reducible refine (HSum.out _ _ _ _ _ (K.get 4 rfl) (K.get 3 rfl)).mono ?_); rintro e V2 ⟨AS, cS, rfl, hi, hb⟩
    replace K := (K.keep hb).add (cl_isC AS cS S) hi
    clear hi hb
    go_wp2_with fail
    (with_reducible refine (HMin.out _ _ _ _ _ (K.get 5 rfl) (K.get 4 rfl)).mono ?_); rintro e V3 ⟨AL, cL, rfl, hi, hb⟩
    replace K := (K.keep hb).add (cl_isC AL cL L) hi
    clear hi hb
    have y0 := (K.get 3 rfl).c0
    have y1 := (K.get 3 rfl).c1
    go_wp2_with fail
    (with_reducible refine (HShift.out _ _ _ (K.get 6 rfl)).mono ?_); rintro e V4 ⟨AM, cM, rfl, hi, hb⟩
    clear y0 y1
    replace K := (K.keep hb).add (cl_isC AM cM M) hi
    clear hi hb
    go_wp2_with fail
    (with_reducible refine (HNorm.out _ _ _ (K.get 7 rfl)).mono ?_); rintro e V5 ⟨AF, cF, rfl, hi, hb⟩
    replace K := (K.keep hb).add (cl_isC AF cF F) hi
    clear hi hb
    have x0 := (K.get 6 rfl).c0
    have x1 := (K.get 6 rfl).c1
    go_wp2_with fail
    (with_reducible refine (HVa.out _ _ _ (K.get 8 rfl)).mono ?_); rintro e V6 ⟨rfl, hb⟩
    clear x0 x1
    replace K := (K.keep hb).box va.num va.den
    clear hb
    have x0 := (K.get 7 rfl).c0
    have x1 := (K.get 7 rfl).c1
    go_wp2_with fail
    (with_reducible refine (HVb.out _ _ _ (K.get 8 rfl)).mono ?_); rintro e V7 ⟨rfl, hb⟩
    clear x0 x1
    replace K := (K.keep hb).box vb.num vb.den
    clear hb
    have x0 := (K.get 8 rfl).c0
    have x1 := (K.get 8 rfl).c1
    go_wp2_with fail
    (with_reducible refine (HVs.out _ _ _ (K.get 5 rfl)).mono ?_); rintro e V8 ⟨rfl, hb⟩
    clear x0 x1
    replace K := (K.keep hb).box both.num both.den
    clear hb
    have x0 := (K.get 9 rfl).c0
    have x1 := (K.get 9 rfl).c1
    go_wp2_with fail
    (with_reducible refine (HVl.out _ _ _ (K.get 5 rfl)).mono ?_); rintro e V9 ⟨rfl, hb⟩
    clear x0 x1
    replace K := (K.keep hb).box va.num va.den
    clear hb
    have x0 := (K.get 10 rfl).c0
    have x1 := (K.get 10 rfl).c1
    go_wp2_with fail
    (with_reducible refine (HVm.out _ _ _ (K.get 5 rfl)).mono ?_); rintro e V10 ⟨rfl, hb⟩
    clear x0 x1
    replace K := (K.keep hb).box vx.num vx.den
    clear hb
    have z0 := (K.get 9 rfl).c0
    have z1 := (K.get 9 rfl).c1
    go_wp2_with fail
    (with_reducible refine (HVx.out _ _ _ (K.get 13 rfl)).mono ?_); rintro e V11 ⟨rfl, hb⟩
    clear z0 z1
    replace K := (K.keep hb).box vx.num vx.den
    clear hb
    have x0 := (K.get 12 rfl).c0
    have x1 := (K.get 12 rfl).c1
    go_wp2_with fail
    (with_reducible refine (HVf.out _ _ _ (K.get 6 rfl)).mono ?_); rintro e V12 ⟨rfl, hb⟩
    clear x0 x1
    replace K := (K.keep hb).box va.num va.den
    clear hb
    have va0 := (K.get 6 rfl).c0
    have va1 := (K.get 6 rfl).c1
    have vb0 := (K.get 5 rfl).c0
    have vb1 := (K.get 5 rfl).c1
    go_wp2_with fail
    (with_reducible refine (HBoth.out _).mono ?_); rintro e V13 ⟨rfl, hb⟩
    clear va0 va1 vb0 vb1
    replace K := (K.keep hb).box both.num both.den
    clear hb
    have K17 := K
    have hs17 : (V13.alloc (.cells #[.int .i64 both.num, .int .i64 both.den] 28)).heap.size = V13.heap.size + 1 := World.size_alloc _ _
    have q0 := (K17.get 7 rfl).c0
    have q1 := (K17.get 7 rfl).c1
    replace K := K.box va.num va.den
    rw [hs17] at K
    have va0 := (K.get 8 rfl).c0
    have va1 := (K.get 8 rfl).c1
    have vb0 := (K.get 7 rfl).c0
    have vb1 := (K.get 7 rfl).c1
    go_wp2_with fail
    (with_reducible refine (HC.out _).mono ?_); rintro e Y ⟨rfl, hb⟩
    clear va0 va1 vb0 vb1
    clear q0 q1
    replace K := K.keep hb.b
    clear hb K17 hs17
    have vs0 := (K.get 6 rfl).c0
    have vs1 := (K.get 6 rfl).c1
    have both0 := (K.get 1 rfl).c0
    have both1 := (K.get 1 rfl).c1
    have vl0 := (K.get 5 rfl).c0
    have vl1 := (K.get 5 rfl).c1
    have small0 := (K.get 0 rfl).c0
    have small1 := (K.get 0 rfl).c1
    have vm0 := (K.get 4 rfl).c0
    have vm1 := (K.get 4 rfl).c1
    have vx0 := (K.get 3 rfl).c0
    have vx1 := (K.get 3 rfl).c1
    have vf0 := (K.get 2 rfl).c0
    have vf1 := (K.get 2 rfl).c1
    have va0 := (K.get 8 rfl).c0
    have va1 := (K.get 8 rfl).c1
    go_wp2_with fail
    (with_reducible refine (HW.out _).mono ?_); rintro e Z ⟨rfl, hb⟩
    have hB := Lib.hid (K.keep hb).b
    clear K hb
    go_wp2
    go_ret
    exact ⟨rfl, hB.out⟩
end Go.Proofs.Ythkgmgochgjpoaa.SumLaw
