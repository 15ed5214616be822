/- Merged texts: CHolds, CHarm, CConf, CConfBad, CGaps. -/
import Derived.Test.YtbncfknjgldcbaaGreatM8
import Derived.Test.YtbncfknjgldcbaaGreatM12
/- calculus.holds. -/
namespace Go.Proofs.YtbncfknjgldcbaaGreat
open Go.RowKit Go.Joins Go.Shelf Go.Sort Num

/-- The level behind a frame. -/
def lvl (rn rd lv last : Int) (f : Sn) : Int := max (lv - rn * (f.t - last)) 0 + f.s * rd
def holdsL (rn rd brim : Int) : Int → Int → List Sn → Bool
  | _, _, [] => true
  | lv, last, f :: l => decide (lvl rn rd lv last f ≤ brim) && holdsL rn rd brim (lvl rn rd lv last f) f.t l
def holdsB (x : Buck) (l : List Sn) : Bool := holdsL x.r.num x.r.den ((x.b.num * x.r.den).tdiv x.b.den) 0 0 l
theorem mul_bd {a b : Int} {A B : Int} (a0 : 0 ≤ a) (a1 : a ≤ A) (b0 : 0 ≤ b) (b1 : b ≤ B) : 0 ≤ a * b ∧ a * b ≤ A * B :=
  ⟨Int.mul_nonneg a0 b0, Int.mul_le_mul a1 b1 b0 (by omega)⟩

set_option maxRecDepth 100000 in
set_option maxHeartbeats 4000000 in
theorem holds_any (x : Buck) (A : Option Addr) (cap : Nat) (l : List Sn) (hlen : l.length ≤ 4000) (hok : frOk 0 l = true) (w : World) (hI : isS A l w) :
    Calls Tryz.prog 87 #[.agg #[.int .i64 x.b.num, .int .i64 x.b.den, .int .i64 x.r.num, .int .i64 x.r.den], .slice A l.length cap] w fun e w' => e = .returned (.bool (holdsB x l)) ∧ Below w.heap.size w w' := by
  have d1 := fit_bd x.hb
  have d2 := fit_bd x.hr
  have n1 := Rat.num_nonneg.2 x.pb
  have n2 := Rat.num_nonneg.2 x.pr
  have bX := BoxN.new w 80 #[.int .i64 x.b.num, .int .i64 x.b.den, .int .i64 x.r.num, .int .i64 x.r.den]
  have hB0 := (Below.refl w.heap.size w).alloc (Nat.le_refl _) (.cells #[.int .i64 x.b.num, .int .i64 x.b.den, .int .i64 x.r.num, .int .i64 x.r.den] 80)
  obtain ⟨res, hres⟩ : ∃ res, holdsB x l = res := ⟨_, rfl⟩
  rw [hres]
  unfold holdsB at hres
  generalize x.b.num = bn at *
  generalize (x.b.den : Int) = bd at *
  generalize x.r.num = rn at *
  generalize (x.r.den : Int) = rd at *
  obtain ⟨m1, m2⟩ := mul_bd n1 (show bn ≤ 1073741824 by omega) (show 0 ≤ rd by omega) (show rd ≤ 1073741824 by omega)
  have q1 : 0 ≤ (bn * rd).tdiv bd := Int.tdiv_nonneg m1 (by omega)
  have q2 : (bn * rd).tdiv bd ≤ bn * rd := by
    rw [Int.tdiv_eq_ediv_of_nonneg m1]
    exact Int.ediv_le_self _ m1
  have hbd0 : bd ≠ 0 := by omega
  have hI := Lib.hid hI
  have Hres := Lib.hid hres
  have Hok := Lib.hid hok
  clear hres hok
  go_enter Tryz.func87, Tryz.ntmps87
  go_wp2_with fail
  generalize hbr : (bn * rd).tdiv bd = brim at *
  have Hbr := Lib.hid hbr
  clear hbr
  go_loopw [7, 8, 25] (fun v s i wr => ∃ (k : Nat) (lv last : Int), k ≤ l.length ∧ i = .int .i64 ↑k ∧ v = .int .i64 lv ∧ s = .int .i64 last ∧ (0 ≤ lv ∧ lv ≤ 1152921504606846976) ∧ 0 ≤ last ∧ Hid (frOk last (l.drop k) = true) ∧ Hid (holdsL rn rd brim 0 0 l = holdsL rn rd brim lv last (l.drop k)) ∧ BoxN wr w.heap.size 80 #[.int .i64 bn, .int .i64 bd, .int .i64 rn, .int .i64 rd] ∧ Below w.heap.size w wr)
    (fun _ _ i _ => l.length - (intOf i).toNat)
  case atStart => exact ⟨0, 0, 0, Nat.zero_le _, rfl, rfl, rfl, ⟨by omega, by omega⟩, by omega, Hok.out, rfl, bX, hB0⟩
  case round =>
    obtain ⟨k, lv, last, hk, rfl, rfl, rfl, ⟨v0, v1⟩, hla, hfo, hho, bX1, hB⟩ := hrel
    clear bX hB0
    by_cases hlt : k < l.length
    · have hx : l[k]? = some l[k] := List.getElem?_eq_getElem hlt
      obtain ⟨f, hxe⟩ : ∃ f, l[k] = f := ⟨_, rfl⟩
      rw [hxe] at hx
      obtain ⟨b, off, rfl, hb, hr⟩ := hI.out (by intro h; subst h; simp at hlt)
      obtain ⟨c0, c1, c2⟩ := (hr.below hB hb) k f hx
      have hbz := Nat.lt_of_lt_of_le hb hB.size
      have hfo' := hfo.out
      rw [drop_at hx] at hfo'
      unfold frOk Sn.ok at hfo'
      simp only [Bool.and_eq_true, decide_eq_true_eq] at hfo'
      obtain ⟨⟨t1, t2, t3, t4⟩, hfn⟩ := hfo'
      have Hfn := Lib.hid hfn
      obtain ⟨p0, p1⟩ := mul_bd n2 (show rn ≤ 1073741824 by omega) (show 0 ≤ f.t - last by omega) (show f.t - last ≤ 1073741824 by omega)
      obtain ⟨r0, r1⟩ := mul_bd (show 0 ≤ f.s by omega) t4 (show 0 ≤ rd by omega) (show rd ≤ 1073741824 by omega)
      have hstep : Hid (holdsL rn rd brim 0 0 l = (decide (max (lv - rn * (f.t - last)) 0 + f.s * rd ≤ brim) && holdsL rn rd brim (max (lv - rn * (f.t - last)) 0 + f.s * rd) f.t (l.drop (k + 1)))) := by unfold Hid; rw [hho.out, drop_at hx]; rfl
      obtain ⟨p, hp⟩ : ∃ p, rn * (f.t - last) = p := ⟨_, rfl⟩
      obtain ⟨r, hrr⟩ : ∃ r, f.s * rd = r := ⟨_, rfl⟩
      rw [hp] at p0 p1 hstep
      rw [hrr] at r0 r1 hstep
      have g0 : 0 ≤ max (lv - p) 0 := by omega
      have g1 : max (lv - p) 0 ≤ 1152921504606846976 := by omega
      have x0 := (bX1.alloc (.cells #[.int .i64 f.t, .int .i64 f.v, .int .i64 f.s] 85)).cell 2
      have kX := bX1.lt
      have bX2 := Lib.hid (bX1.alloc (.cells #[.int .i64 f.t, .int .i64 f.v, .int .i64 f.s] 85))
      have hB2 := Lib.hid (hB.alloc hB.size (.cells #[.int .i64 f.t, .int .i64 f.v, .int .i64 f.s] 85))
      clear hx hxe hr hfo hho hfn bX1 hB
      by_cases hq : brim < max (lv - p) 0 + r
      · have hno : Hid (res = false) := by unfold Hid; rw [← Hres.out, hstep.out, decide_eq_false (by omega)]; rfl
        go_wp2
        go_ret
        exact ⟨by rw [hno.out]; rfl, hB2.out⟩
      · have hyes : Hid (holdsL rn rd brim 0 0 l = holdsL rn rd brim (max (lv - p) 0 + r) f.t (l.drop (k + 1))) := by unfold Hid; rw [hstep.out, decide_eq_true (by omega)]; rfl
        have hqf : decide (brim < max (lv - p) 0 + r) = false := by simp; omega
        go_wp2
        go_roundw
        case rel => exact ⟨k + 1, max (lv - p) 0 + r, f.t, hlt, by go_num, rfl, rfl, ⟨by omega, by omega⟩, by omega, Hfn.out, hyes.out, bX2.out, hB2.out⟩
        case measure => simp [intOf]; omega
    · obtain rfl : k = l.length := by omega
      have hend : Hid (res = true) := by unfold Hid; rw [← Hres.out, hho.out, List.drop_length]; rfl
      clear hfo hho
      go_wp2
      go_ret
      exact ⟨by rw [hend.out]; rfl, hB⟩
end Go.Proofs.YtbncfknjgldcbaaGreat
/- calculus.harmless. -/
namespace Go.Proofs.YtbncfknjgldcbaaGreat
open Go.RowKit Go.Joins Go.Shelf Go.Sort Num

def rho (x : Buck) : Rat := Rat.divInt x.b.den x.r.den
theorem rho_fit (x : Buck) : Fit (rho x) := by
  have d1 := fit_bd x.hb
  have d2 := fit_bd x.hr
  exact bd_divInt (by omega) (by omega) (by omega)
theorem rho_nn (x : Buck) : 0 ≤ rho x := by
  have d1 := fit_bd x.hb
  have d2 := fit_bd x.hr
  unfold rho
  rw [Rat.divInt_nonneg_iff_of_pos_right (by omega)]
  omega
/-- The last time up to which nothing can fail: least, unless a bucket says less. -/
def harmL : Int → List Buck → Int
  | least, [] => least
  | least, x :: l => if 1073741824 < x.b.num * (rho x).den ∨ 1073741824 < (x.b.den : Int) * ((rho x).den : Int) then 0 else harmL (if 0 < x.r.num * (rho x).num then min least ((1073741824 - x.b.num * (rho x).den).tdiv (x.r.num * (rho x).num)) else least) l

set_option maxRecDepth 100000 in
set_option maxHeartbeats 4000000 in
theorem harm_any (A : Option Addr) (cap : Nat) (c : List Buck) (hl : c.length ≤ 1048576) (w : World) (hI : isC A cap c w) :
    Calls Tryz.prog 85 #[.slice A c.length cap] w fun e w' => e = .returned (.int .i64 (harmL 1073741824 c)) ∧ Below w.heap.size w w' := by
  have HM : Hid (∀ (x : Buck) (W : World), Calls Tryz.prog 40 #[.int .i64 x.b.den, .int .i64 x.r.den] W fun e w' => e = .returned (ratV ((rho x).num, ((rho x).den : Int), 0)) ∧ Below W.heap.size W w') := fun x W => by
    have d1 := fit_bd x.hb
    have d2 := fit_bd x.hr
    have := make_any x.b.den x.r.den W (by omega) (by omega) (by omega) (by omega)
    rw [mk_ofR _ _ (by omega), show Rat.divInt (x.b.den : Int) x.r.den = rho x from rfl, ofR_yes (rho_fit x)] at this
    exact this
  have hI := Lib.hid hI
  obtain ⟨res, hres⟩ : ∃ res, harmL 1073741824 c = res := ⟨_, rfl⟩
  rw [hres]
  have Hres := Lib.hid hres
  clear hres
  go_enter Tryz.func85, Tryz.ntmps85
  go_wp2_with fail
  go_loopw [3, 13] (fun v i wr => ∃ (k : Nat) (le : Int), k ≤ c.length ∧ i = .int .i64 ↑k ∧ v = .int .i64 le ∧ (0 ≤ le ∧ le ≤ 1073741824) ∧ Hid (harmL 1073741824 c = harmL le (c.drop k)) ∧ Below w.heap.size w wr)
    (fun _ i _ => c.length - (intOf i).toNat)
  case atStart => exact ⟨0, 1073741824, Nat.zero_le _, rfl, rfl, ⟨by omega, by omega⟩, rfl, Below.refl _ _⟩
  case round =>
    obtain ⟨k, le, hk, rfl, rfl, ⟨v0, v1⟩, hho, hB⟩ := hrel
    by_cases hlt : k < c.length
    · have hx : c[k]? = some c[k] := List.getElem?_eq_getElem hlt
      obtain ⟨x, hxe⟩ : ∃ x, c[k] = x := ⟨_, rfl⟩
      rw [hxe] at hx
      obtain ⟨b, off, rfl, hb, hr⟩ := isC.cells hI.out (by intro h; subst h; simp at hlt)
      obtain ⟨c0, c1, c2, c3⟩ := (hr.below hB hb) k x hx
      have hbz := Nat.lt_of_lt_of_le hb hB.size
      have HMx := fun W => HM.out x W
      have hstep : Hid (harmL 1073741824 c = if 1073741824 < x.b.num * (rho x).den ∨ 1073741824 < (x.b.den : Int) * ((rho x).den : Int) then 0 else harmL (if 0 < x.r.num * (rho x).num then min le ((1073741824 - x.b.num * (rho x).den).tdiv (x.r.num * (rho x).num)) else le) (c.drop (k + 1))) := by unfold Hid; rw [hho.out, drop_at hx]; rfl
      have d1 := fit_bd x.hb
      have d2 := fit_bd x.hr
      have n1 := Rat.num_nonneg.2 x.pb
      have n2 := Rat.num_nonneg.2 x.pr
      have d3 := fit_bd (rho_fit x)
      have n3 := Rat.num_nonneg.2 (rho_nn x)
      generalize x.b.num = bn at *
      generalize (x.b.den : Int) = bd at *
      generalize x.r.num = rn at *
      generalize (x.r.den : Int) = rd at *
      generalize (rho x).num = pn at *
      generalize ((rho x).den : Int) = pd at *
      simp only [ratV] at HMx
      replace HMx := Lib.hid HMx
      obtain ⟨m0, m1⟩ := mul_bd n1 (show bn ≤ 1073741824 by omega) (show 0 ≤ pd by omega) (show pd ≤ 1073741824 by omega)
      obtain ⟨m2, m3⟩ := mul_bd n2 (show rn ≤ 1073741824 by omega) n3 (show pn ≤ 1073741824 by omega)
      obtain ⟨m4, m5⟩ := mul_bd (show 0 ≤ bd by omega) (show bd ≤ 1073741824 by omega) (show 0 ≤ pd by omega) (show pd ≤ 1073741824 by omega)
      obtain ⟨bu, hbu⟩ : ∃ bu, bn * pd = bu := ⟨_, rfl⟩
      obtain ⟨ra, hra⟩ : ∃ ra, rn * pn = ra := ⟨_, rfl⟩
      obtain ⟨wh, hwh⟩ : ∃ wh, bd * pd = wh := ⟨_, rfl⟩
      rw [hbu] at m0 m1 hstep
      rw [hra] at m2 m3 hstep
      rw [hwh] at m4 m5 hstep
      clear hx hxe hr hho
      go_wp2_with fail
      (with_reducible refine (HMx.out _).mono ?_); rintro _ w1 ⟨rfl, hb1⟩
      have bX := (BoxN.new wr 80 #[.int .i64 bn, .int .i64 bd, .int .i64 rn, .int .i64 rd]).below hb1 (by simp)
      have hB1 := (hB.alloc hB.size (.cells #[.int .i64 bn, .int .i64 bd, .int .i64 rn, .int .i64 rd] 80)).trans (hb1.mono (by have := hB.size; simp; omega))
      have hB2 := Lib.hid (hB1.alloc hB1.size (.cells #[.int .i64 pn, .int .i64 pd] 25))
      have x0 := bX.cell 0
      have x1 := bX.cell 1
      have x2 := bX.cell 2
      have x3 := bX.cell 3
      have kX := bX.lt
      clear c0 c1 c2 c3 hb1 hB hB1 bX
      go_wp2_with fail
      go_quiet (fail)
      have hB2' := Lib.hid (below_drewN hB2.out nq)
      by_cases k1 : 1073741824 < bu
      · have hr0 : Hid (res = 0) := by unfold Hid; rw [← Hres.out, hstep.out, if_pos (Or.inl k1)]
        go_wp2
        go_ret
        exact ⟨by rw [hr0.out]; rfl, hB2'.out⟩
      have k1' : decide (1073741824 < bu) = false := by simp; omega
      by_cases k2 : 1073741824 < wh
      · have hr0 : Hid (res = 0) := by unfold Hid; rw [← Hres.out, hstep.out, if_pos (Or.inr k2)]
        go_wp2
        go_ret
        exact ⟨by rw [hr0.out]; rfl, hB2'.out⟩
      have k2' : decide (1073741824 < wh) = false := by simp; omega
      have hst2 : Hid (harmL 1073741824 c = harmL (if 0 < ra then min le ((1073741824 - bu).tdiv ra) else le) (c.drop (k + 1))) := by unfold Hid; rw [hstep.out, if_neg (by omega)]
      by_cases k3 : 0 < ra
      · have hst3 : Hid (harmL 1073741824 c = harmL (min le ((1073741824 - bu).tdiv ra)) (c.drop (k + 1))) := by unfold Hid; rw [hst2.out, if_pos k3]
        have q0 : 0 ≤ (1073741824 - bu).tdiv ra := Int.tdiv_nonneg (by omega) (by omega)
        have q1 : (1073741824 - bu).tdiv ra ≤ 1073741824 := by
          rw [Int.tdiv_eq_ediv_of_nonneg (by omega)]
          exact Int.le_trans (Int.ediv_le_self _ (by omega)) (by omega)
        have k3' : ra ≠ 0 := by omega
        go_wp2
        go_roundw
        case rel => exact ⟨k + 1, _, hlt, by go_num, rfl, ⟨by omega, by omega⟩, hst3.out, hB2'.out⟩
        case measure => simp [intOf]; omega
      · have hst3 : Hid (harmL 1073741824 c = harmL le (c.drop (k + 1))) := by unfold Hid; rw [hst2.out, if_neg k3]
        have k3' : decide (0 < ra) = false := by simp; omega
        go_wp2
        go_roundw
        case rel => exact ⟨k + 1, le, hlt, by go_num, rfl, ⟨v0, v1⟩, hst3.out, hB2'.out⟩
        case measure => simp [intOf]; omega
    · obtain rfl : k = c.length := by omega
      have hend : Hid (res = le) := by unfold Hid; rw [← Hres.out, hho.out, List.drop_length]; rfl
      clear hho
      go_wp2
      go_ret
      exact ⟨by rw [hend.out]; rfl, hB⟩
end Go.Proofs.YtbncfknjgldcbaaGreat
/- What calculus.Conforms asks of each bucket. -/
namespace Go.Proofs.YtbncfknjgldcbaaGreat
open Go.RowKit Go.Joins Go.Shelf Go.Sort Num

set_option maxRecDepth 100000 in
set_option maxHeartbeats 2000000 in
theorem conf1_any (x : Buck) (A : Option Addr) (cap : Nat) (l : List Sn) (hlen : l.length ≤ 4000) (hok : frOk 0 l = true) (bl : Nat) (w : World) (hb : BoxN w bl 61 #[.slice A l.length cap]) (hI : isS A l w) :
    Calls Tryz.prog 86 #[.agg #[.int .i64 x.b.num, .int .i64 x.b.den, .int .i64 x.r.num, .int .i64 x.r.den], .pointer (some ⟨bl, 0, none⟩)] w fun e w' => e = .returned (.bool (!holdsB x l)) ∧ Below w.heap.size w w' := by
  have hB0 := (Below.refl w.heap.size w).alloc (Nat.le_refl _) (.cells #[.int .i64 x.b.num, .int .i64 x.b.den, .int .i64 x.r.num, .int .i64 x.r.den] 80)
  have HH := holds_any x A cap l hlen hok _ (cl_isS A l w _ hI hB0)
  have c0 := (hb.alloc (.cells #[.int .i64 x.b.num, .int .i64 x.b.den, .int .i64 x.r.num, .int .i64 x.r.den] 80)).cell 0
  have kb := hb.lt
  generalize holdsB x l = r at HH ⊢
  generalize x.b.num = bn at *
  generalize (x.b.den : Int) = bd at *
  generalize x.r.num = rn at *
  generalize (x.r.den : Int) = rd at *
  replace HH := Lib.hid HH
  clear hI hok
  go_enter Tryz.func86, Tryz.ntmps86
  go_wp2_with fail
  (with_reducible refine (HH.out).mono ?_); rintro _ w1 ⟨rfl, hb1⟩
  have hB := hB0.trans (hb1.mono hB0.size)
  clear c0 hb1
  go_wp2
  go_ret
  exact ⟨rfl, hB⟩

set_option maxRecDepth 100000 in
set_option maxHeartbeats 2000000 in
theorem indexB_any (A : Option Addr) (cap : Nat) (c : List Buck) (p : Buck → Bool) (hl : c.length ≤ 1048576) (bl : Nat) (w : World) (hI : isC A cap c w)
    (HN : ∀ (x : Buck) (W : World), Below w.heap.size w W → Calls Tryz.prog 86 #[.agg #[.int .i64 x.b.num, .int .i64 x.b.den, .int .i64 x.r.num, .int .i64 x.r.den], .pointer (some ⟨bl, 0, none⟩)] W fun e w' => e = .returned (.bool (p x)) ∧ Below W.heap.size W w') :
    Calls Tryz.prog 121 #[.slice A c.length cap, .func (.func 86) #[] #[.pointer (some ⟨bl, 0, none⟩)]] w fun e w' => ∃ i : Int, e = .returned (.int .i64 i) ∧ ((-1 ≤ i ∧ i ≤ 1048576) ∧ decide (0 ≤ i) = c.any p) ∧ Below w.heap.size w w' := by
  replace HN := Lib.hid HN
  replace hI := Lib.hid hI
  go_enter Tryz.func121, Tryz.ntmps121
  go_wp2_with fail
  go_loopw [8] (fun i wr => ∃ k : Nat, k ≤ c.length ∧ i = .int .i64 ↑k ∧ Hid ((c.take k).any p = false) ∧ Below w.heap.size w wr)
    (fun i _ => c.length - (intOf i).toNat)
  case atStart => exact ⟨0, Nat.zero_le _, rfl, rfl, Below.refl _ _⟩
  case round =>
    obtain ⟨k, hk, rfl, hno, hB⟩ := hrel
    by_cases hlt : k < c.length
    · have hx : c[k]? = some c[k] := List.getElem?_eq_getElem hlt
      obtain ⟨x, hxe⟩ : ∃ x, c[k] = x := ⟨_, rfl⟩
      rw [hxe] at hx
      obtain ⟨b, off, rfl, hb, hr⟩ := isC.cells hI.out (by intro h; subst h; simp at hlt)
      obtain ⟨c0, c1, c2, c3⟩ := (hr.below hB hb) k x hx
      have hbz := Nat.lt_of_lt_of_le hb hB.size
      have hC := Lib.hid (HN.out x wr hB)
      have hstep : Hid ((c.take (k + 1)).any p = p x) := by unfold Hid; rw [take_succ' hx, List.any_append, hno.out]; simp
      have hyes : Hid (p x = true → c.any p = true) := fun h => by rw [List.any_eq_true]; exact ⟨x, List.mem_of_getElem? hx, h⟩
      generalize p x = q at hC hstep hyes
      clear hx hxe hr hno
      go_wp2_with fail
      (with_reducible refine (hC.out).mono ?_); rintro _ w1 ⟨rfl, hb1⟩
      have hB1 := hB.trans (hb1.mono hB.size)
      clear c0 c1 c2 c3 hb1
      cases q
      · go_wp2
        go_roundw
        case rel => exact ⟨k + 1, by omega, by go_num, hstep.out, hB1⟩
        case measure => simp [intOf]; omega
      · have hy := Lib.hid (hyes.out rfl)
        go_wp2
        go_ret
        exact ⟨↑k, rfl, ⟨⟨by omega, by omega⟩, by rw [hy.out]; simp⟩, hB1⟩
    · obtain rfl : k = c.length := by omega
      have hres : Hid (c.any p = false) := by
        have := hno.out
        rwa [List.take_length] at this
      go_wp2_with fail
      go_ret
      exact ⟨-1, rfl, ⟨⟨by omega, by omega⟩, by rw [hres.out]; simp⟩, hB⟩

set_option maxHeartbeats 1000000 in
theorem spills_any (A B : Option Addr) (cap cb : Nat) (c : List Buck) (hl : c.length ≤ 1048576) (l : List Sn) (hlen : l.length ≤ 4000) (hok : frOk 0 l = true) (bl : Nat) (w : World) (hI : isC A cap c w) (hb : BoxN w bl 61 #[.slice B l.length cb]) (hS : isS B l w) :
    Calls Tryz.prog 88 #[.slice A c.length cap, .func (.func 86) #[] #[.pointer (some ⟨bl, 0, none⟩)]] w fun e w' => e = .returned (.bool (c.any fun x => !holdsB x l)) ∧ Below w.heap.size w w' := by
  have HS := indexB_any A cap c (fun x => !holdsB x l) hl bl w hI (fun x W hW => conf1_any x B cb l hlen hok bl W (hb.below hW hb.lt) (cl_isS B l w W hS hW))
  generalize (c.any fun x => !holdsB x l) = b at HS ⊢
  have HS := Lib.hid HS
  clear hI hb hS hok
  go_enter Tryz.func88, Tryz.ntmps88
  go_wp2_with fail
  (with_reducible refine (HS.out).mono ?_); rintro _ w1 ⟨i, rfl, ⟨⟨h1, h2⟩, h3⟩, hb1⟩
  have hB := hb1
  have h3 := Lib.hid h3
  go_wp2
  go_ret
  exact ⟨by rw [← h3.out]; rfl, hB⟩
end Go.Proofs.YtbncfknjgldcbaaGreat
/- calculus.Conforms of arguments that are not valid. -/
namespace Go.Proofs.YtbncfknjgldcbaaGreat
open Go.RowKit Go.Joins Go.Shelf Go.Sort Num
attribute [local go_sem] Oper.semAt_some

set_option maxRecDepth 100000 in
set_option maxHeartbeats 2000000 in
theorem conf_bad (A B : Option Addr) (ca cb : Nat) (c : List Bk) (hlen : c.length ≤ 1048576) (hbd : ∀ x ∈ c, x.bd64) (l : List Sn) (hbl : l.length ≤ 4000 → ∀ x ∈ l, x.bd64) (w : World) (hC : SlR w.heap.size w (.slice A c.length ca) c) (hS : isS B l w) (hbad : (valC c && frB l) = false) :
    CallsIn Fence.wide 9 Tryz.prog 34 #[.slice A c.length ca, .slice B l.length cb] w fun e w' => e = .returned (.tuple #[.bool false, .int .i64 2]) ∧ Below w.heap.size w w' := by
  have hro : Fence.wide.round = none := rfl
  have hB0 := ((((Below.refl w.heap.size w).alloc (Nat.le_refl _) (.cells #[.slice A c.length ca] 23)).alloc (by simp) (.cells #[.slice B l.length cb] 61)).alloc (by simp; omega) (.cells #[.bool false] 4)).alloc (by simp; omega) (.cells #[.int .i64 0] 27)
  have HV := valid_c A ca c hlen hbd _ ((hC.below hB0 (Nat.le_refl _)).more hB0.size)
  have HF : Hid (∀ W : World, Below w.heap.size w W → Calls Tryz.prog 83 #[.slice B l.length cb] W fun e w' => e = .returned (.bool (frB l)) ∧ Below W.heap.size W w') := fun W hW => frames_any B cb l hbl W (cl_isS B l w W hS hW)
  have b4 := (BoxN.new ((w.alloc (.cells #[.slice A c.length ca] 23)).alloc (.cells #[.slice B l.length cb] 61)) 4 #[.bool false]).alloc (.cells #[.int .i64 0] 27)
  have b5 := BoxN.new (((w.alloc (.cells #[.slice A c.length ca] 23)).alloc (.cells #[.slice B l.length cb] 61)).alloc (.cells #[.bool false] 4)) 27 #[.int .i64 0]
  have b3 := ((BoxN.new (w.alloc (.cells #[.slice A c.length ca] 23)) 61 #[.slice B l.length cb]).alloc (.cells #[.bool false] 4)).alloc (.cells #[.int .i64 0] 27)
  have b2 := (((BoxN.new w 23 #[.slice A c.length ca]).alloc (.cells #[.slice B l.length cb] 61)).alloc (.cells #[.bool false] 4)).alloc (.cells #[.int .i64 0] 27)
  rw [World.size_alloc, World.size_alloc] at b4
  rw [World.size_alloc, World.size_alloc, World.size_alloc] at b5
  rw [World.size_alloc] at b3
  generalize valC c = x at HV hbad
  generalize frB l = y at HF hbad
  have c2 := b2.cell 0
  replace HV := Lib.hid HV
  clear hC hS hbd hbl
  refine callsIn_of_wp_marks Tryz.func34 rfl trivial ?_ hro
  simp only [Tryz.ntmps34, List.size_toArray, List.length_cons, List.length_nil, Nat.reduceAdd, Nat.reduceSub, Array.replicate_succ, Array.replicate_zero, List.push_toArray, List.append_toArray, List.nil_append, List.cons_append]
  refine wpIn_wide.2 ?_
  go_wp2_with fail
  (with_reducible refine (HV.out).mono ?_); rintro e w1 ⟨rfl, hb1⟩
  have hB1 := hB0.trans (hb1.mono hB0.size)
  have d3 := b3.below hb1 b3.lt
  have d4 := b4.below hb1 b4.lt
  have d5 := b5.below hb1 b5.lt
  clear c2 hb1 b2 b3 b4 b5 hB0
  cases x
  · have hB := hB1
    have r4 := d4.cell 0
    have r5 := d5.cell 0
    have f4 := d4.frozen 0
    have f5 := d5.frozen 0
    have k4 := d4.lt
    have k5 := d5.lt
    go_wp2
    obtain ⟨q4, q5⟩ := res2 (.bool false) (.int .i64 2) d4 d5 (by omega)
    have r4 := q4.cell 0
    have r5 := q5.cell 0
    refine ⟨.tuple #[.bool false, .int .i64 2], by simp [results, Tryz.f34, go_sem, r4, r5], rfl, ?_⟩
    (have hBs := hB.size; (try simp only [World.size_alloc] at hBs); repeat' (first | (with_reducible exact hB) | (with_reducible exact hBs) | (with_reducible refine Below.drew ?_) | (with_reducible refine below_drewN ?_ _) | (with_reducible refine Below.setCell ?_ ?_ _) | (with_reducible refine Below.alloc ?_ ?_ _) | go_size | omega | (simp; omega)))
  · obtain rfl : y = false := by simpa using hbad
    have HFx := Lib.hid (HF.out w1 hB1)
    have c3 := d3.cell 0
    go_wp2_with fail
    (with_reducible refine (HFx.out).mono ?_); rintro e w2 ⟨rfl, hb2⟩
    have hB := hB1.trans (hb2.mono hB1.size)
    have e4 := d4.below hb2 d4.lt
    have e5 := d5.below hb2 d5.lt
    have r4 := e4.cell 0
    have r5 := e5.cell 0
    have f4 := e4.frozen 0
    have f5 := e5.frozen 0
    have k4 := e4.lt
    have k5 := e5.lt
    clear c3 hb2 d3 d4 d5
    go_wp2
    obtain ⟨q4, q5⟩ := res2 (.bool false) (.int .i64 2) e4 e5 (by omega)
    have r4 := q4.cell 0
    have r5 := q5.cell 0
    refine ⟨.tuple #[.bool false, .int .i64 2], by simp [results, Tryz.f34, go_sem, r4, r5], rfl, ?_⟩
    (have hBs := hB.size; (try simp only [World.size_alloc] at hBs); repeat' (first | (with_reducible exact hB) | (with_reducible exact hBs) | (with_reducible refine Below.drew ?_) | (with_reducible refine below_drewN ?_ _) | (with_reducible refine Below.setCell ?_ ?_ _) | (with_reducible refine Below.alloc ?_ ?_ _) | go_size | omega | (simp; omega)))
end Go.Proofs.YtbncfknjgldcbaaGreat
/- calculus.gaps: the function value and its boxes. -/
namespace Go.Proofs.YtbncfknjgldcbaaGreat
open Go.RowKit Go.Joins Go.Shelf Go.Sort Num

theorem gaps_any (A : Option Addr) (la ca : Nat) (h : Int) (w : World) :
    Calls Tryz.prog 84 #[.slice A la ca, .int .i64 h] w fun e w' => e = .returned (.func (.func 119) #[] #[.pointer (some ⟨w.heap.size, 0, none⟩), .pointer (some ⟨w.heap.size + 1, 0, none⟩)]) ∧ w' = (w.alloc (.cells #[.slice A la ca] 61)).alloc (.cells #[.int .i64 h] 3) := by
  go_enter Tryz.func84, Tryz.ntmps84
  go_wp2
  go_ret
  exact ⟨rfl, rfl⟩
theorem gaps_box (A : Option Addr) (la ca : Nat) (h : Int) (w : World) :
    Calls Tryz.prog 84 #[.slice A la ca, .int .i64 h] w fun e w' => ∃ b1 b2, e = .returned (.func (.func 119) #[] #[.pointer (some ⟨b1, 0, none⟩), .pointer (some ⟨b2, 0, none⟩)]) ∧ BoxN w' b1 61 #[.slice A la ca] ∧ BoxN w' b2 3 #[.int .i64 h] ∧ Below w.heap.size w w' :=
  (gaps_any A la ca h w).mono fun e w' ⟨h1, h2⟩ => ⟨_, _, h1, by rw [h2]; exact (BoxN.new _ _ _).alloc _, by rw [h2]; have := BoxN.new (w.alloc (.cells #[.slice A la ca] 61)) 3 #[.int .i64 h]; rwa [World.size_alloc] at this, by rw [h2]; exact ((Below.refl _ _).alloc (Nat.le_refl _) _).alloc (by simp) _⟩
end Go.Proofs.YtbncfknjgldcbaaGreat
