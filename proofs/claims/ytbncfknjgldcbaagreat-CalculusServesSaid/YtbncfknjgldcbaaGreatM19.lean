/- Merged texts: CSvM. -/
import Derived.Test.YtbncfknjgldcbaaGreatM13
/- Conforms: the mathematics. -/
namespace Go.Proofs.YtbncfknjgldcbaaGreat
open Go.RowKit Go.Joins Go.Shelf Go.Sort Num

/-- The bytes of frames. -/
def sumS : List Sn → Int
  | [] => 0
  | x :: l => x.s + sumS l
/-- Every pair of frames fits. -/
def PairB (rn rd brim : Int) (l : List Sn) : Prop := ∀ (i k : Nat) (x y : Sn), i ≤ k → l[i]? = some x → l[k]? = some y → rd * sumS ((l.drop i).take (k - i + 1)) - rn * (y.t - x.t) ≤ brim
theorem holdsL_iff (rn rd brim : Int) : ∀ (l : List Sn) (lv last : Int), holdsL rn rd brim lv last l = true ↔ (∀ (k : Nat) (y : Sn), l[k]? = some y → lv - rn * (y.t - last) + rd * sumS (l.take (k + 1)) ≤ brim) ∧ PairB rn rd brim l
  | [], lv, last => by simp [holdsL, PairB]
  | f :: l, lv, last => by
    have ih := holdsL_iff rn rd brim l (lvl rn rd lv last f) f.t
    rw [holdsL, Bool.and_eq_true, decide_eq_true_eq, ih]
    have h1 : lv - rn * (f.t - last) + f.s * rd ≤ lvl rn rd lv last f := by unfold lvl; omega
    have h2 : f.s * rd ≤ lvl rn rd lv last f := by unfold lvl; omega
    have h3 : lvl rn rd lv last f = lv - rn * (f.t - last) + f.s * rd ∨ lvl rn rd lv last f = f.s * rd := by unfold lvl; omega
    generalize lvl rn rd lv last f = L at *
    have e1 : ∀ y : Sn, rn * (y.t - last) = rn * (y.t - f.t) + rn * (f.t - last) := fun y => by rw [← Int.mul_add]; congr 1; omega
    have e2 : ∀ z : Int, rd * (f.s + z) = f.s * rd + rd * z := fun z => by rw [Int.mul_add, Int.mul_comm rd f.s]
    have e3 : rd * (f.s + 0) = f.s * rd := by rw [Int.add_zero, Int.mul_comm]
    constructor
    · rintro ⟨a, A, B⟩
      refine ⟨?_, ?_⟩
      · intro k y hy
        cases k with
        | zero =>
          obtain rfl : f = y := by simpa using hy
          show lv - rn * (f.t - last) + rd * (f.s + 0) ≤ brim
          rw [e3]; omega
        | succ k =>
          have := A k y (by simpa using hy)
          show lv - rn * (y.t - last) + rd * (f.s + sumS (l.take (k + 1))) ≤ brim
          rw [e1, e2]; omega
      · intro i k x y hik hx hy
        cases i with
        | zero =>
          obtain rfl : f = x := by simpa using hx
          cases k with
          | zero =>
            obtain rfl : f = y := by simpa using hy
            show rd * (f.s + 0) - rn * (f.t - f.t) ≤ brim
            rw [e3, Int.sub_self, Int.mul_zero]; omega
          | succ k =>
            have := A k y (by simpa using hy)
            show rd * (f.s + sumS (l.take (k + 1))) - rn * (y.t - f.t) ≤ brim
            rw [e2]; omega
        | succ i =>
          cases k with
          | zero => omega
          | succ k =>
            have := B i k x y (by omega) (by simpa using hx) (by simpa using hy)
            rw [show k + 1 - (i + 1) = k - i by omega]
            exact this
    · rintro ⟨A, B⟩
      refine ⟨?_, ?_, ?_⟩
      · have a0 := A 0 f rfl
        have b0 := B 0 0 f f (Nat.le_refl _) rfl rfl
        replace a0 : lv - rn * (f.t - last) + rd * (f.s + 0) ≤ brim := a0
        replace b0 : rd * (f.s + 0) - rn * (f.t - f.t) ≤ brim := b0
        rw [e3] at a0 b0
        rw [Int.sub_self, Int.mul_zero] at b0
        omega
      · intro k y hy
        have a0 := A (k + 1) y (by simpa using hy)
        have b0 := B 0 (k + 1) f y (Nat.zero_le _) rfl (by simpa using hy)
        replace a0 : lv - rn * (y.t - last) + rd * (f.s + sumS (l.take (k + 1))) ≤ brim := a0
        replace b0 : rd * (f.s + sumS (l.take (k + 1))) - rn * (y.t - f.t) ≤ brim := b0
        rw [e1, e2] at a0
        rw [e2] at b0
        omega
      · intro i k x y hik hx hy
        have := B (i + 1) (k + 1) x y (by omega) (by simpa using hx) (by simpa using hy)
        rw [show k + 1 - (i + 1) = k - i by omega] at this
        exact this
theorem holds_pair {rn rd brim : Int} (h : 0 ≤ rn) {l : List Sn} (ht : ∀ x ∈ l, 0 ≤ x.t) : holdsL rn rd brim 0 0 l = true ↔ PairB rn rd brim l := by
  rw [holdsL_iff]
  refine ⟨fun h => h.2, fun hp => ⟨?_, hp⟩⟩
  intro k y hy
  cases l with
  | nil => simp at hy
  | cons f l =>
    have b0 := hp 0 k f y (Nat.zero_le _) rfl hy
    rw [List.drop_zero, Nat.sub_zero] at b0
    have : 0 ≤ rn * f.t := Int.mul_nonneg h (ht f List.mem_cons_self)
    rw [show rn * (y.t - f.t) = rn * (y.t - 0) - rn * f.t by rw [← Int.mul_sub]; congr 1; omega] at b0
    omega
theorem den_mul' (q : Rat) : q * ((q.den : Int) : Rat) = ((q.num : Int) : Rat) := by
  have h : ((q.den : Int) : Rat) ≠ 0 := by
    have := q.den_nz
    intro e
    have e2 : ((q.den : Int) : Rat) = ((0 : Int) : Rat) := e
    rw [Rat.intCast_inj] at e2
    omega
  have h2 : q = ((q.num : Int) : Rat) / ((q.den : Int) : Rat) := by rw [← Rat.divInt_eq_div, Rat.num_divInt_den]
  have h3 := @Rat.div_mul_cancel ((q.num : Int) : Rat) ((q.den : Int) : Rat) h
  rw [← h2] at h3
  exact h3
theorem eq_divInt' {x : Rat} {N W : Int} (hW : 0 < W) (h : x * (W : Rat) = (N : Rat)) : x = Rat.divInt N W := by
  have hn : (W : Rat) ≠ 0 := by
    intro e
    have e2 : (W : Rat) = ((0 : Int) : Rat) := e
    rw [Rat.intCast_inj] at e2
    omega
  rw [Rat.divInt_eq_div, ← h, Rat.div_def, Rat.mul_assoc, Rat.mul_inv_cancel _ hn, Rat.mul_one]
theorem harmL_le : ∀ (l : List Buck) (least : Int), 0 ≤ least → harmL least l ≤ least
  | [], _, _ => Int.le_refl _
  | x :: l, least, h => by
    rw [harmL]
    split
    · exact h
    · split
      · rename_i h1 h2
        have : 0 ≤ (1073741824 - x.b.num * (rho x).den).tdiv (x.r.num * (rho x).num) := Int.tdiv_nonneg (by omega) (by omega)
        exact Int.le_trans (harmL_le l _ (by omega)) (by omega)
      · exact harmL_le l least h
theorem okv_zero (x : Buck) : okv x 0 := by
  unfold okv valQ
  rw [Rat.mul_zero, Rat.add_zero]
  exact ⟨⟨by decide, by decide⟩, x.hb⟩
theorem okv_of (x : Buck) {g : Int} (g0 : 0 ≤ g) (h1 : x.b.num * (rho x).den + x.r.num * (rho x).num * g ≤ 1073741824) (h2 : (x.b.den : Int) * ((rho x).den : Int) ≤ 1073741824) : okv x (g : Rat) := by
  have d1 := fit_bd x.hb
  have d2 := fit_bd x.hr
  have d3 := fit_bd (rho_fit x)
  have n1 := Rat.num_nonneg.2 x.pb
  have n2 := Rat.num_nonneg.2 x.pr
  have hrp : (0 : Int) < x.r.den := by omega
  have eb := den_mul' x.b
  have er := den_mul' x.r
  have ep := den_mul' (rho x)
  have erho : rho x * ((x.r.den : Int) : Rat) = ((x.b.den : Int) : Rat) := by
    have hn : ((x.r.den : Int) : Rat) ≠ 0 := by
      intro e
      have e2 : ((x.r.den : Int) : Rat) = ((0 : Int) : Rat) := e
      rw [Rat.intCast_inj] at e2
      omega
    unfold rho
    rw [Rat.divInt_eq_div, Rat.div_mul_cancel hn]
  have hp : 0 < (rho x).num := by
    have n3 : 0 ≤ (rho x).num := Rat.num_nonneg.2 (by
      unfold rho
      rw [Rat.divInt_nonneg_iff_of_pos_right hrp]; omega)
    rcases Int.lt_or_eq_of_le n3 with h | h
    · exact h
    · exfalso
      have h0 : ((x.b.den : Int) : Rat) = ((0 : Int) : Rat) := by
        rw [← erho, ← Rat.num_divInt_den (rho x), ← h]
        simp
      rw [Rat.intCast_inj] at h0
      omega
  generalize hbn : x.b.num = bn at *
  generalize hbd : (x.b.den : Int) = bd at *
  generalize hrn : x.r.num = rn at *
  generalize hrd : (x.r.den : Int) = rd at *
  generalize hpn : (rho x).num = pn at *
  generalize hpd : ((rho x).den : Int) = pd at *
  have hw : 0 < bd * pd := Int.mul_pos (by omega) (by omega)
  have q1 : 0 ≤ rn * pn * g := Int.mul_nonneg (Int.mul_nonneg n2 (by omega)) g0
  have q2 : 0 ≤ bn * pd := Int.mul_nonneg n1 (by omega)
  constructor
  · have e1 : x.r * (g : Rat) = Rat.divInt (rn * g) rd := eq_divInt' hrp (by rw [Rat.intCast_mul, ← er]; grind)
    rw [e1]
    have q3 : 0 ≤ rn * g := Int.mul_nonneg n2 g0
    have q4 : rn * g ≤ rn * pn * g := by
      have : rn * g * 1 ≤ rn * g * pn := Int.mul_le_mul_of_nonneg_left (by omega) q3
      rw [show rn * pn * g = rn * g * pn by grind]; omega
    exact bd_divInt hrp (by omega) (by omega)
  · have e2 : valQ x (g : Rat) = Rat.divInt (bn * pd + rn * pn * g) (bd * pd) := eq_divInt' hw (by
      unfold valQ
      rw [Rat.intCast_add, Rat.intCast_mul, Rat.intCast_mul, Rat.intCast_mul, Rat.intCast_mul, ← eb, ← er, ← ep, ← erho]
      grind)
    rw [e2]
    exact bd_divInt hw (by omega) (by omega)
theorem harm_ok : ∀ (c : List Buck) (least g : Int), 0 ≤ least → 0 ≤ g → g ≤ harmL least c → ∀ x ∈ c, okv x (g : Rat)
  | [], _, _, _, _, _ => by simp
  | y :: l, least, g, h0, g0, hg => by
    by_cases hz : g = 0
    · subst hz
      intro x _
      exact okv_zero x
    rw [harmL] at hg
    split at hg
    · omega
    rename_i h1
    have d3 := fit_bd (rho_fit y)
    have hl : ∃ l1, 0 ≤ l1 ∧ g ≤ harmL l1 l ∧ (0 < y.r.num * (rho y).num → l1 ≤ (1073741824 - y.b.num * (rho y).den).tdiv (y.r.num * (rho y).num)) := by
      split at hg
      · rename_i h2
        have : 0 ≤ (1073741824 - y.b.num * (rho y).den).tdiv (y.r.num * (rho y).num) := Int.tdiv_nonneg (by omega) (by omega)
        exact ⟨_, by omega, hg, fun _ => by omega⟩
      · exact ⟨least, h0, hg, fun h => by omega⟩
    obtain ⟨l1, hl0, hl1, hl2⟩ := hl
    intro x hx
    rcases List.mem_cons.1 hx with rfl | hx
    · refine okv_of x g0 ?_ (by omega)
      have hle := harmL_le l l1 hl0
      by_cases hr : 0 < x.r.num * (rho x).num
      · have := hl2 hr
        have h5 : g ≤ (1073741824 - x.b.num * (rho x).den).tdiv (x.r.num * (rho x).num) := by omega
        rw [Int.tdiv_eq_ediv_of_nonneg (by omega), Int.le_ediv_iff_mul_le hr] at h5
        rw [Int.mul_comm] at h5
        omega
      · have n2 := Rat.num_nonneg.2 x.pr
        have n3 : 0 ≤ (rho x).num := Rat.num_nonneg.2 (by
          have d1 := fit_bd x.hb
          have d2 := fit_bd x.hr
          unfold rho
          rw [Rat.divInt_nonneg_iff_of_pos_right (by omega)]; omega)
        have h6 : 0 ≤ x.r.num * (rho x).num := Int.mul_nonneg n2 n3
        have h7 : x.r.num * (rho x).num = 0 := by omega
        rw [h7, Int.zero_mul]
        omega
    · exact harm_ok l l1 g hl0 g0 hl1 x hx
/-- One pair, in rational numbers. -/
theorem pair_rat {b r : Rat} (hb : 0 ≤ b) (S G : Int) : (r.den : Int) * S - r.num * G ≤ (b.num * r.den).tdiv b.den ↔ (S : Rat) ≤ b + r * (G : Rat) := by
  have hbd : (0 : Int) < b.den := by have := b.den_nz; omega
  have hrd : (0 : Int) < r.den := by have := r.den_nz; omega
  have hbn := Rat.num_nonneg.2 hb
  rw [Int.tdiv_eq_ediv_of_nonneg (Int.mul_nonneg hbn (by omega)), Int.le_ediv_iff_mul_le hbd]
  have hB : (0 : Rat) < ((b.den : Int) : Rat) := Rat.intCast_lt_intCast.2 hbd
  have hR : (0 : Rat) < ((r.den : Int) : Rat) := Rat.intCast_lt_intCast.2 hrd
  have eb := den_mul' b
  have er := den_mul' r
  generalize hbd' : (b.den : Int) = bd at *
  generalize hrd' : (r.den : Int) = rd at *
  have hBR := Rat.mul_pos hB hR
  have key : ((S : Rat) ≤ b + r * (G : Rat)) ↔ (S : Rat) * ((bd : Rat) * (rd : Rat)) ≤ (b + r * (G : Rat)) * ((bd : Rat) * (rd : Rat)) := by
    rw [← Rat.not_lt, ← Rat.not_lt, Rat.mul_lt_mul_right hBR]
  rw [key]
  have e : (b + r * (G : Rat)) * ((bd : Rat) * (rd : Rat)) = ((b.num * rd + r.num * G * bd : Int) : Rat) := by
    rw [Rat.intCast_add, Rat.intCast_mul, Rat.intCast_mul, Rat.intCast_mul, ← eb, ← er]
    grind
  rw [e, show (S : Rat) * ((bd : Rat) * (rd : Rat)) = ((S * (bd * rd) : Int) : Rat) by rw [Rat.intCast_mul, Rat.intCast_mul], Rat.intCast_le_intCast]
  have e5 : (rd * S - r.num * G) * bd = S * (bd * rd) - r.num * G * bd := by grind
  rw [e5]
  omega

theorem foldl_minV (t : Rat) : ∀ (l : List Buck) (m S : Rat), S ≤ l.foldl (minStep t) m ↔ S ≤ m ∧ ∀ x ∈ l, S ≤ valQ x t
  | [], m, S => by simp
  | y :: l, m, S => by
    rw [List.foldl_cons, foldl_minV t l]
    unfold minStep
    constructor
    · rintro ⟨h, h2⟩
      split at h
      · rename_i h3
        refine ⟨Rat.le_trans h (Rat.le_of_lt h3), fun x hx => ?_⟩
        rcases List.mem_cons.1 hx with rfl | hx
        · exact h
        · exact h2 x hx
      · rename_i h3
        refine ⟨h, fun x hx => ?_⟩
        rcases List.mem_cons.1 hx with rfl | hx
        · exact Rat.le_trans h (Rat.not_lt.1 h3)
        · exact h2 x hx
    · rintro ⟨h, h2⟩
      refine ⟨?_, fun x hx => h2 x (List.mem_cons_of_mem _ hx)⟩
      split
      · exact h2 y List.mem_cons_self
      · exact h
theorem le_minV {c : List Buck} (hc : c ≠ []) (S t : Rat) : S ≤ minV c t ↔ ∀ x ∈ c, S ≤ valQ x t := by
  cases c with
  | nil => exact absurd rfl hc
  | cons y l =>
    rw [minV, foldl_minV]
    simp

/-- All that Conforms asks at a difference of times can be computed. -/
def okc (c : List Buck) (g : Int) : Prop := ∀ x ∈ c, okv x (g : Rat)
/-- Some difference of times cannot. -/
def ConfBad (c : List Buck) (l : List Sn) : Prop := ∃ (i k : Nat) (x y : Sn), i ≤ k ∧ l[i]? = some x ∧ l[k]? = some y ∧ ¬ okc c (y.t - x.t)
/-- Every pair of frames fits. -/
def ConfAll (c : List Buck) (l : List Sn) : Prop := ∀ (i k : Nat) (x y : Sn), i ≤ k → l[i]? = some x → l[k]? = some y → ((sumS ((l.drop i).take (k - i + 1)) : Int) : Rat) ≤ minV c ((y.t - x.t : Int) : Rat)
/-- What Conforms of valid arguments answers. -/
def ConfP (c : List Buck) (l : List Sn) (r : Bool) (e : Int) : Prop := (ConfBad c l ∧ r = false ∧ e = 3) ∨ (¬ ConfBad c l ∧ e = 0 ∧ (r = true ↔ ConfAll c l))
theorem ConfP.eq {c : List Buck} {l : List Sn} {r r' : Bool} {e e' : Int} (h : ConfP c l r e) (h' : ConfP c l r' e') : r = r' ∧ e = e' := by
  rcases h with ⟨a, b, d⟩ | ⟨a, b, d⟩ <;> rcases h' with ⟨a', b', d'⟩ | ⟨a', b', d'⟩
  · exact ⟨b.trans b'.symm, d.trans d'.symm⟩
  · exact absurd a a'
  · exact absurd a' a
  · refine ⟨?_, b.trans b'.symm⟩
    have := d.trans d'.symm
    cases r <;> cases r' <;> simp_all
theorem holdsB_iff {x : Buck} {l : List Sn} (ht : ∀ y ∈ l, 0 ≤ y.t) : holdsB x l = true ↔ ∀ (i k : Nat) (y z : Sn), i ≤ k → l[i]? = some y → l[k]? = some z → ((sumS ((l.drop i).take (k - i + 1)) : Int) : Rat) ≤ valQ x ((z.t - y.t : Int) : Rat) := by
  unfold holdsB
  rw [holds_pair (Rat.num_nonneg.2 x.pr) ht]
  unfold PairB valQ
  constructor
  · intro h i k y z hik hy hz
    exact (pair_rat x.pb _ _).1 (h i k y z hik hy hz)
  · intro h i k y z hik hy hz
    exact (pair_rat x.pb _ _).2 (h i k y z hik hy hz)
theorem all_holds {c : List Buck} (hc : c ≠ []) {l : List Sn} (ht : ∀ y ∈ l, 0 ≤ y.t) : (!(c.any fun x => !holdsB x l)) = true ↔ ConfAll c l := by
  have : (!(c.any fun x => !holdsB x l)) = true ↔ ∀ x ∈ c, holdsB x l = true := by
    rw [Bool.not_eq_true', List.any_eq_false]
    simp
  rw [this]
  constructor
  · intro h i k y z hik hy hz
    exact (le_minV hc _ _).2 fun x hx => (holdsB_iff ht).1 (h x hx) i k y z hik hy hz
  · intro h x hx
    exact (holdsB_iff ht).2 fun i k y z hik hy hz => (le_minV hc _ _).1 (h i k y z hik hy hz) x hx
/-- The gaps that are tried. -/
def GapsOk (c : List Buck) (l : List Sn) (h : Int) : Prop := ∀ (i k : Nat) (x y : Sn), l[i]? = some x → l[k]? = some y → h < y.t - x.t → okc c (y.t - x.t)
theorem frOk_first : ∀ {l : List Sn} {last : Int}, frOk last l = true → ∀ y ∈ l, last ≤ y.t
  | [], _, _, y, hy => by simp at hy
  | f :: l, last, h, y, hy => by
    unfold frOk Sn.ok at h
    simp only [Bool.and_eq_true, decide_eq_true_eq] at h
    obtain ⟨⟨t1, -⟩, h5⟩ := h
    rcases List.mem_cons.1 hy with rfl | hy
    · exact t1
    · exact Int.le_trans t1 (frOk_first h5 y hy)
theorem frOk_le : ∀ {l : List Sn} {last : Int}, frOk last l = true → ∀ (i k : Nat) (x y : Sn), i ≤ k → l[i]? = some x → l[k]? = some y → x.t ≤ y.t
  | [], _, _, i, k, x, y, _, hx, _ => by simp at hx
  | f :: l, last, h, i, k, x, y, hik, hx, hy => by
    rw [frOk, Bool.and_eq_true] at h
    cases i with
    | zero =>
      obtain rfl : f = x := by simpa using hx
      cases k with
      | zero =>
        obtain rfl : f = y := by simpa using hy
        exact Int.le_refl _
      | succ k =>
        have hy' : l[k]? = some y := by simpa using hy
        exact (frOk_first h.2 y (List.mem_of_getElem? hy'))
    | succ i =>
      cases k with
      | zero => omega
      | succ k => exact frOk_le h.2 i k x y (by omega) (by simpa using hx) (by simpa using hy)
/-- The program's answer. -/
theorem conf_yes {c : List Buck} (hc : c ≠ []) {l : List Sn} (hok : frOk 0 l = true) (hg : GapsOk c l (harmL 1073741824 c)) : ConfP c l (!(c.any fun x => !holdsB x l)) 0 := by
  refine .inr ⟨?_, rfl, all_holds hc fun y hy => (frOk_mem hok (Int.le_refl 0) y hy).1⟩
  rintro ⟨i, k, x, y, hik, hx, hy, hn⟩
  have hle := frOk_le hok i k x y hik hx hy
  by_cases h : harmL 1073741824 c < y.t - x.t
  · exact hn (hg i k x y hx hy h)
  · exact hn (harm_ok c 1073741824 (y.t - x.t) (by decide) (by omega) (by omega))
theorem conf_no {c : List Buck} {l : List Sn} {h : Int} (h0 : 0 ≤ h) (hok : frOk 0 l = true) {i k : Nat} {x y : Sn} (hx : l[i]? = some x) (hy : l[k]? = some y) (hgt : h < y.t - x.t) (hn : ¬ okc c (y.t - x.t)) : ConfP c l false 3 := by
  refine .inl ⟨⟨i, k, x, y, ?_, hx, hy, hn⟩, rfl, rfl⟩
  by_cases hik : i ≤ k
  · exact hik
  · have := frOk_le hok k i y x (by omega) hy hx
    omega
end Go.Proofs.YtbncfknjgldcbaaGreat
