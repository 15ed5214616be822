/- Numbers that a curve may hold, as rational numbers; the contracts of rat's operations at them, of curve.amount, curve.value, curve.add and curve.meeting. -/
import Derived.Test.YtaanhddgmiggfaaGreatNum
import Derived.Lib.SmallJoins
namespace Go.Proofs.YtaanhddgmiggfaaGreat
open Go.RowKit Go.Joins Num

theorem below_allocs1 {B : Nat} {w X Y : World} {o : Obj} (hB : Below B w X) (h : B ≤ X.heap.size) (hb : Below (X.alloc o).heap.size (X.alloc o) Y) : Below B w Y := (hB.alloc h o).trans (hb.mono (by simp; omega))
/-- A block of two ints, a struct of the call's own. -/
structure Has (W : World) (b : Nat) (n d : Int) : Prop where
  lt : b < W.heap.size
  c0 : W.cell? ⟨b, 0, none⟩ = some (.int .i64 n)
  c1 : W.cell? ⟨b, 1, none⟩ = some (.int .i64 d)
theorem Has.keep {W W' : World} {b : Nat} {n d : Int} (h : Has W b n d) (hb : Below W.heap.size W W') : Has W' b n d :=
  ⟨Nat.lt_of_lt_of_le h.lt hb.size, (hb.cell (p := ⟨b, 0, none⟩) h.lt).trans h.c0, (hb.cell (p := ⟨b, 1, none⟩) h.lt).trans h.c1⟩
theorem Has.new (W : World) (n d : Int) (t : TypeId) : Has (W.alloc (.cells #[.int .i64 n, .int .i64 d] t)) W.heap.size n d :=
  ⟨by simp, (cell_of_block (MapKept.heap_alloc W _).1 0).trans rfl, (cell_of_block (MapKept.heap_alloc W _).1 1).trans rfl⟩
theorem Has.alloc {W : World} {b : Nat} {n d : Int} (h : Has W b n d) (o : Obj) : Has (W.alloc o) b n d := h.keep ((Below.refl _ _).alloc (Nat.le_refl _) _)
/-- A valid number. -/
abbrev Fit (r : Rat) : Prop := Bd r 1073741824 1073741824
instance (r : Rat) (A B : Nat) : Decidable (Bd r A B) := inferInstanceAs (Decidable (_ ∧ _))
theorem ofR_yes {r : Rat} (h : Fit r) : ofR r = (r.num, (r.den : Int), 0) := ofR_fits h (Nat.le_refl _) (Nat.le_refl _)
theorem ofR_no {r : Rat} (h : ¬ Fit r) : ofR r = (0, 0, 3) := if_neg h
theorem fit_bd {r : Rat} (h : Fit r) : -1073741824 ≤ r.num ∧ r.num ≤ 1073741824 ∧ 1 ≤ (r.den : Int) ∧ (r.den : Int) ≤ 1073741824 := by
  have h1 := h.1
  have h2 := h.2
  have h3 := r.den_pos
  omega
theorem fit_vld {r : Rat} (h : Fit r) : vldB r.num r.den = true := vld_r h (Nat.le_refl _) (Nat.le_refl _)
def cmpQ (r s : Rat) : Int := if r < s then -1 else if s < r then 1 else 0

section
variable {r s : Rat} (hr : Fit r) (hs : Fit s) (w : World)
include hr hs
theorem add_r : Calls Tryz.prog 49 #[.agg #[.int .i64 r.num, .int .i64 r.den], .agg #[.int .i64 s.num, .int .i64 s.den]] w fun e w' => e = .returned (ratV (ofR (r + s))) ∧ Below w.heap.size w w' := by
  have h1 := fit_bd hr
  have h2 := fit_bd hs
  rw [← addN_r hr hs]
  exact add_any _ _ _ _ w (by omega) (by omega) (by omega) (by omega) (by omega) (by omega) (by omega) (by omega)
theorem sub_r : Calls Tryz.prog 52 #[.agg #[.int .i64 r.num, .int .i64 r.den], .agg #[.int .i64 s.num, .int .i64 s.den]] w fun e w' => e = .returned (ratV (ofR (r - s))) ∧ Below w.heap.size w w' := by
  have h1 := fit_bd hr
  have h2 := fit_bd hs
  rw [← subN_r hr hs]
  exact sub_any _ _ _ _ w (by omega) (by omega) (by omega) (by omega) (by omega) (by omega) (by omega) (by omega)
theorem mul_r : Calls Tryz.prog 53 #[.agg #[.int .i64 r.num, .int .i64 r.den], .agg #[.int .i64 s.num, .int .i64 s.den]] w fun e w' => e = .returned (ratV (ofR (r * s))) ∧ Below w.heap.size w w' := by
  have h1 := fit_bd hr
  have h2 := fit_bd hs
  rw [← mulN_r hr hs]
  exact mul_any _ _ _ _ w (by omega) (by omega) (by omega) (by omega) (by omega) (by omega) (by omega) (by omega)
theorem div_r (h0 : s ≠ 0) : Calls Tryz.prog 78 #[.agg #[.int .i64 r.num, .int .i64 r.den], .agg #[.int .i64 s.num, .int .i64 s.den]] w fun e w' => e = .returned (ratV (ofR (r / s))) ∧ Below w.heap.size w w' := by
  have h1 := fit_bd hr
  have h2 := fit_bd hs
  rw [← divN_r hr hs h0]
  exact div_any _ _ _ _ w (by omega) (by omega) (by omega) (by omega) (by omega) (by omega) (by omega) (by omega)
theorem cmp_r : Calls Tryz.prog 48 #[.agg #[.int .i64 r.num, .int .i64 r.den], .agg #[.int .i64 s.num, .int .i64 s.den]] w fun e w' => e = .returned (.int .i64 (cmpQ r s)) ∧ Lays w w' := by
  have h1 := fit_bd hr
  have h2 := fit_bd hs
  unfold cmpQ
  rw [← cmpN_r hr hs]
  exact cmp_lays _ _ _ _ w (by omega) (by omega) (by omega) (by omega) (by omega) (by omega) (by omega) (by omega)
end

/-- When a number may stand in a curve. -/
def amtB (n d : Int) : Bool := decide (0 ≤ n) && vldB n d
set_option maxHeartbeats 400000 in
theorem amount_any (n d : Int) (w : World) (n0 : -9223372036854775808 ≤ n) (n1 : n ≤ 9223372036854775807) (d0 : -9223372036854775808 ≤ d) (d1 : d ≤ 9223372036854775807) :
    Calls Tryz.prog 57 #[.agg #[.int .i64 n, .int .i64 d]] w fun e w' => e = .returned (.bool (amtB n d)) ∧ Lays w w' := by
  unfold amtB
  by_cases h : 0 ≤ n
  · obtain ⟨v, Hv⟩ : ∃ v, Hid (v = vldB n d) := ⟨_, rfl⟩
    rw [← Hv.out]
    simp only [h, decide_true, Bool.true_and]
    go_enter Tryz.func57, Tryz.ntmps57
    go_wp2_with fail
    refine (valid_lays n d _ n0 n1 d0 d1).mono ?_; rintro e w1 ⟨rfl, hb1⟩; rw [← Hv.out]
    go_wp2
    go_ret
    exact ⟨rfl, ((Lays.refl _).alloc _).trans hb1⟩
  · simp only [h, decide_false, Bool.false_and]
    have h' : n < 0 := by omega
    go_enter Tryz.func57, Tryz.ntmps57
    go_wp2
    go_ret
    exact ⟨rfl, (Lays.refl _).alloc _⟩

/-- The value of a bucket: the number, or the error. -/
def valV (b r t : Rat) : Int × Int × Int := if Fit (r * t) then ofR (b + r * t) else (0, 0, 3)
set_option maxHeartbeats 1000000 in
theorem value_r {b r t : Rat} (hb : Fit b) (hr : Fit r) (ht : Fit t) (w : World) :
    Calls Tryz.prog 58 #[.agg #[.int .i64 b.num, .int .i64 b.den, .int .i64 r.num, .int .i64 r.den], .agg #[.int .i64 t.num, .int .i64 t.den]] w fun e w' => e = .returned (ratV (valV b r t)) ∧ Below w.heap.size w w' := by
  unfold valV
  have HM : ∀ W : World, _ := fun W => mul_r hr ht W
  by_cases hm : Fit (r * t)
  · rw [if_pos hm]
    rw [ofR_yes hm] at HM
    have HA : ∀ W : World, _ := fun W => add_r hb hm W
    have HM := Lib.hid HM
    have HA := Lib.hid HA
    generalize hq : ofR (b + r * t) = q at HA ⊢
    obtain ⟨q1, q2, q3⟩ := q
    clear hq hm
    generalize (r * t).num = m1 at HM HA
    generalize ((r * t).den : Int) = m2 at HM HA
    simp only [ratV] at HM HA ⊢
    go_enter Tryz.func58, Tryz.ntmps58
    go_wp2_with fail
    refine (HM.out _).mono ?_; rintro e w1 ⟨rfl, hb1⟩
    obtain ⟨hc, hf⟩ := bcell hb1
    have hz := hb1.size
    simp only [World.size_alloc] at hc hf hz
    have k0 : w.heap.size < w1.heap.size := by omega
    have k1 : w.heap.size + 1 < w1.heap.size := by omega
    go_wp2_with fail
    refine (HA.out _).mono ?_; rintro e w2 ⟨rfl, hb2⟩
    replace hb2 := below_allocs1 hb1 hb1.size hb2
    clear hc hf hb1 hz k0 k1
    obtain ⟨hc, hf⟩ := bcell hb2
    have hz := hb2.size
    simp only [World.size_alloc] at hc hf hz
    have hB : Below w.heap.size w w2 := ((((Below.refl _ w).alloc (Nat.le_refl _) _).alloc (by simp) _).alloc (by simp; omega) _).trans (hb2.mono (by simp; omega))
    go_wp2
    refine bodyPost_ret (v := ratV (q1, q2, q3)) (by simp [results, Tryz.results58, go_sem, ratV, hc]) rfl ⟨rfl, ?_⟩
    (have hBs := hB.size; (try simp only [World.size_alloc] at hBs); repeat' (first | (with_reducible exact hB) | (with_reducible exact hBs) | (with_reducible refine Below.drew ?_) | (with_reducible refine below_drewN ?_ _) | (with_reducible refine Below.setCell ?_ ?_ _) | (with_reducible refine Below.alloc ?_ ?_ _) | go_size | omega | (simp; omega)))
  · rw [if_neg hm]
    rw [ofR_no hm] at HM
    have HM := Lib.hid HM
    simp only [ratV] at HM ⊢
    go_enter Tryz.func58, Tryz.ntmps58
    go_wp2_with fail
    refine (HM.out _).mono ?_; rintro e w1 ⟨rfl, hb1⟩
    obtain ⟨hc, hf⟩ := bcell hb1
    have hz := hb1.size
    simp only [World.size_alloc] at hc hf hz
    have k2 : w.heap.size + 1 + 1 < w1.heap.size := by omega
    have hB : Below w.heap.size w w1 := ((((Below.refl _ w).alloc (Nat.le_refl _) _).alloc (by simp) _).alloc (by simp; omega) _).trans (hb1.mono (by simp; omega))
    go_wp2
    refine bodyPost_ret (v := ratV (0, 0, 3)) (by simp [results, Tryz.results58, go_sem, ratV, hc, k2]) rfl ⟨rfl, ?_⟩
    (have hBs := hB.size; (try simp only [World.size_alloc] at hBs); repeat' (first | (with_reducible exact hB) | (with_reducible exact hBs) | (with_reducible refine Below.drew ?_) | (with_reducible refine below_drewN ?_ _) | (with_reducible refine Below.setCell ?_ ?_ _) | (with_reducible refine Below.alloc ?_ ?_ _) | go_size | omega | (simp; omega)))

/-- What curve.add returns: the bucket and the error. -/
def buckV (x : (Int × Int × Int × Int) × Int) : Value := .tuple #[.agg #[.int .i64 x.1.1, .int .i64 x.1.2.1, .int .i64 x.1.2.2.1, .int .i64 x.1.2.2.2], .int .i64 x.2]
def addV (b r c s : Rat) : (Int × Int × Int × Int) × Int := if Fit (b + c) ∧ Fit (r + s) then (((b + c).num, ((b + c).den : Int), (r + s).num, ((r + s).den : Int)), 0) else ((0, 0, 0, 0), 3)
set_option maxHeartbeats 2000000 in
theorem add_b {b r c s : Rat} (hb : Fit b) (hr : Fit r) (hc : Fit c) (hs : Fit s) (w : World) :
    Calls Tryz.prog 67 #[.agg #[.int .i64 b.num, .int .i64 b.den, .int .i64 r.num, .int .i64 r.den], .agg #[.int .i64 c.num, .int .i64 c.den, .int .i64 s.num, .int .i64 s.den]] w fun e w' => e = .returned (buckV (addV b r c s)) ∧ Below w.heap.size w w' := by
  unfold addV
  have HM : ∀ W : World, _ := fun W => add_r hb hc W
  have HA : ∀ W : World, _ := fun W => add_r hr hs W
  by_cases hm : Fit (b + c)
  · rw [ofR_yes hm] at HM
    generalize hm1 : (b + c).num = m1 at HM ⊢
    generalize hm2 : ((b + c).den : Int) = m2 at HM ⊢
    simp only [hm, true_and]
    clear hm1 hm2
    by_cases ha : Fit (r + s)
    · rw [ofR_yes ha] at HA
      rw [if_pos ha]
      generalize (r + s).num = q1 at HA ⊢
      generalize ((r + s).den : Int) = q2 at HA ⊢
      have HM := Lib.hid HM
      have HA := Lib.hid HA
      clear hm ha
      simp only [ratV, buckV] at HM HA ⊢
      go_enter Tryz.func67, Tryz.ntmps67
      go_wp2_with fail
      refine (HM.out _).mono ?_; rintro e w1 ⟨rfl, hb1⟩
      obtain ⟨hc, hf⟩ := bcell hb1
      have hz := hb1.size
      simp only [World.size_alloc] at hc hf hz
      have k0 : w.heap.size < w1.heap.size := by omega
      have k1 : w.heap.size + 1 < w1.heap.size := by omega
      go_wp2_with fail
      refine (HA.out _).mono ?_; rintro e w2 ⟨rfl, hb2⟩
      have hx := (Has.new w1 m1 m2 25).keep hb2
      replace hb2 := below_allocs1 hb1 hb1.size hb2
      have kk := hb2.size
      clear hc hf hz k0 k1
      obtain ⟨hc, hf⟩ := bcell hb2
      have hz := hb2.size
      simp only [World.size_alloc] at hc hf hz
      have hB : Below w.heap.size w w2 := ((((Below.refl _ w).alloc (Nat.le_refl _) _).alloc (by simp) _).alloc (by simp; omega) _).trans (hb2.mono (by simp; omega))
      have k2 : w.heap.size + 1 + 1 < w2.heap.size := by omega
      have x0 := (hx.alloc (.cells #[.int .i64 q1, .int .i64 q2] 25)).c0
      have x1 := (hx.alloc (.cells #[.int .i64 q1, .int .i64 q2] 25)).c1
      clear hb1 kk
      generalize w1.heap.size = b1 at *
      go_wp2
      refine bodyPost_ret (v := buckV ((m1, m2, q1, q2), 0)) (by simp [results, Tryz.results67, go_sem, buckV, hc, k2]) rfl ⟨rfl, ?_⟩
      (have hBs := hB.size; (try simp only [World.size_alloc] at hBs); repeat' (first | (with_reducible exact hB) | (with_reducible exact hBs) | (with_reducible refine Below.drew ?_) | (with_reducible refine below_drewN ?_ _) | (with_reducible refine Below.setCell ?_ ?_ _) | (with_reducible refine Below.alloc ?_ ?_ _) | go_size | omega | (simp; omega)))
    · rw [ofR_no ha] at HA
      rw [if_neg ha]
      have HM := Lib.hid HM
      have HA := Lib.hid HA
      clear hm ha
      simp only [ratV, buckV] at HM HA ⊢
      go_enter Tryz.func67, Tryz.ntmps67
      go_wp2_with fail
      refine (HM.out _).mono ?_; rintro e w1 ⟨rfl, hb1⟩
      obtain ⟨hc, hf⟩ := bcell hb1
      have hz := hb1.size
      simp only [World.size_alloc] at hc hf hz
      have k0 : w.heap.size < w1.heap.size := by omega
      have k1 : w.heap.size + 1 < w1.heap.size := by omega
      go_wp2_with fail
      refine (HA.out _).mono ?_; rintro e w2 ⟨rfl, hb2⟩
      replace hb2 := below_allocs1 hb1 hb1.size hb2
      clear hc hf hz k0 k1
      obtain ⟨hc, hf⟩ := bcell hb2
      have hz := hb2.size
      simp only [World.size_alloc] at hc hf hz
      have hB : Below w.heap.size w w2 := ((((Below.refl _ w).alloc (Nat.le_refl _) _).alloc (by simp) _).alloc (by simp; omega) _).trans (hb2.mono (by simp; omega))
      have k2 : w.heap.size + 1 + 1 < w2.heap.size := by omega
      clear hb1
      go_wp2
      refine bodyPost_ret (v := buckV ((0, 0, 0, 0), 3)) (by simp [results, Tryz.results67, go_sem, buckV, hc, k2]) rfl ⟨rfl, ?_⟩
      (have hBs := hB.size; (try simp only [World.size_alloc] at hBs); repeat' (first | (with_reducible exact hB) | (with_reducible exact hBs) | (with_reducible refine Below.drew ?_) | (with_reducible refine below_drewN ?_ _) | (with_reducible refine Below.setCell ?_ ?_ _) | (with_reducible refine Below.alloc ?_ ?_ _) | go_size | omega | (simp; omega)))
  · rw [ofR_no hm] at HM
    simp only [hm, false_and, if_false]
    have HM := Lib.hid HM
    clear hm HA
    simp only [ratV, buckV] at HM ⊢
    go_enter Tryz.func67, Tryz.ntmps67
    go_wp2_with fail
    refine (HM.out _).mono ?_; rintro e w1 ⟨rfl, hb1⟩
    obtain ⟨hc, hf⟩ := bcell hb1
    have hz := hb1.size
    simp only [World.size_alloc] at hc hf hz
    have hB : Below w.heap.size w w1 := ((((Below.refl _ w).alloc (Nat.le_refl _) _).alloc (by simp) _).alloc (by simp; omega) _).trans (hb1.mono (by simp; omega))
    have k2 : w.heap.size + 1 + 1 < w1.heap.size := by omega
    go_wp2
    refine bodyPost_ret (v := buckV ((0, 0, 0, 0), 3)) (by simp [results, Tryz.results67, go_sem, buckV, hc, k2]) rfl ⟨rfl, ?_⟩
    (have hBs := hB.size; (try simp only [World.size_alloc] at hBs); repeat' (first | (with_reducible exact hB) | (with_reducible exact hBs) | (with_reducible refine Below.drew ?_) | (with_reducible refine below_drewN ?_ _) | (with_reducible refine Below.setCell ?_ ?_ _) | (with_reducible refine Below.alloc ?_ ?_ _) | go_size | omega | (simp; omega)))

/-- What curve.meeting returns. -/
def meetV (b r c s : Rat) : Int × Int × Int := if Fit (c - b) ∧ Fit (r - s) then ofR ((c - b) / (r - s)) else (0, 0, 3)
set_option maxHeartbeats 2000000 in
theorem meeting_b {b r c s : Rat} (hb : Fit b) (hr : Fit r) (hc : Fit c) (hs : Fit s) (h0 : r - s ≠ 0) (w : World) :
    Calls Tryz.prog 71 #[.agg #[.int .i64 b.num, .int .i64 b.den, .int .i64 r.num, .int .i64 r.den], .agg #[.int .i64 c.num, .int .i64 c.den, .int .i64 s.num, .int .i64 s.den]] w fun e w' => e = .returned (ratV (meetV b r c s)) ∧ Below w.heap.size w w' := by
  unfold meetV
  have HM : ∀ W : World, _ := fun W => sub_r hc hb W
  have HA : ∀ W : World, _ := fun W => sub_r hr hs W
  by_cases hm : Fit (c - b)
  · simp only [hm, true_and]
    by_cases ha : Fit (r - s)
    · have HD : ∀ W : World, _ := fun W => div_r hm ha W h0
      rw [ofR_yes ha] at HA
      rw [ofR_yes hm] at HM
      rw [if_pos ha]
      generalize (r - s).num = q1 at HA HD
      generalize ((r - s).den : Int) = q2 at HA HD
      generalize (c - b).num = m1 at HM HD
      generalize ((c - b).den : Int) = m2 at HM HD
      generalize hq : ofR ((c - b) / (r - s)) = q at HD ⊢
      obtain ⟨p1, p2, p3⟩ := q
      have HM := Lib.hid HM
      have HA := Lib.hid HA
      have HD := Lib.hid HD
      clear hm ha hq h0
      simp only [ratV] at HM HA HD ⊢
      go_enter Tryz.func71, Tryz.ntmps71
      go_wp2_with fail
      refine (HM.out _).mono ?_; rintro e w1 ⟨rfl, hb1⟩
      obtain ⟨hc, hf⟩ := bcell hb1
      have hz := hb1.size
      simp only [World.size_alloc] at hc hf hz
      have k0 : w.heap.size < w1.heap.size := by omega
      have k1 : w.heap.size + 1 < w1.heap.size := by omega
      go_wp2_with fail
      refine (HA.out _).mono ?_; rintro e w2 ⟨rfl, hb2⟩
      have hx := (Has.new w1 m1 m2 25).keep hb2
      replace hb2 := below_allocs1 hb1 hb1.size hb2
      clear hc hf hz k0 k1
      have x0 := (hx.alloc (.cells #[.int .i64 q1, .int .i64 q2] 25)).c0
      have x1 := (hx.alloc (.cells #[.int .i64 q1, .int .i64 q2] 25)).c1
      clear hb1
      generalize w1.heap.size = b1 at *
      go_wp2_with fail
      refine (HD.out _).mono ?_; rintro e w3 ⟨rfl, hb3⟩
      replace hb3 := below_allocs1 hb2 hb2.size hb3
      clear hb2
      obtain ⟨hc, hf⟩ := bcell hb3
      have hz := hb3.size
      simp only [World.size_alloc] at hc hf hz
      have hB : Below w.heap.size w w3 := ((((Below.refl _ w).alloc (Nat.le_refl _) _).alloc (by simp) _).alloc (by simp; omega) _).trans (hb3.mono (by simp; omega))
      have k2 : w.heap.size + 1 + 1 < w3.heap.size := by omega
      go_wp2
      refine bodyPost_ret (v := ratV (p1, p2, p3)) (by simp [results, Tryz.results71, go_sem, ratV, hc]) rfl ⟨rfl, ?_⟩
      (have hBs := hB.size; (try simp only [World.size_alloc] at hBs); repeat' (first | (with_reducible exact hB) | (with_reducible exact hBs) | (with_reducible refine Below.drew ?_) | (with_reducible refine below_drewN ?_ _) | (with_reducible refine Below.setCell ?_ ?_ _) | (with_reducible refine Below.alloc ?_ ?_ _) | go_size | omega | (simp; omega)))
    · rw [ofR_no ha] at HA
      rw [ofR_yes hm] at HM
      rw [if_neg ha]
      have HM := Lib.hid HM
      have HA := Lib.hid HA
      clear hm ha h0
      simp only [ratV] at HM HA ⊢
      go_enter Tryz.func71, Tryz.ntmps71
      go_wp2_with fail
      refine (HM.out _).mono ?_; rintro e w1 ⟨rfl, hb1⟩
      obtain ⟨hc, hf⟩ := bcell hb1
      have hz := hb1.size
      simp only [World.size_alloc] at hc hf hz
      have k0 : w.heap.size < w1.heap.size := by omega
      have k1 : w.heap.size + 1 < w1.heap.size := by omega
      go_wp2_with fail
      refine (HA.out _).mono ?_; rintro e w2 ⟨rfl, hb2⟩
      replace hb2 := below_allocs1 hb1 hb1.size hb2
      clear hc hf hz k0 k1
      obtain ⟨hc, hf⟩ := bcell hb2
      have hz := hb2.size
      simp only [World.size_alloc] at hc hf hz
      have hB : Below w.heap.size w w2 := ((((Below.refl _ w).alloc (Nat.le_refl _) _).alloc (by simp) _).alloc (by simp; omega) _).trans (hb2.mono (by simp; omega))
      have k2 : w.heap.size + 1 + 1 < w2.heap.size := by omega
      clear hb1
      go_wp2
      refine bodyPost_ret (v := ratV (0, 0, 3)) (by simp [results, Tryz.results71, go_sem, ratV, hc, k2]) rfl ⟨rfl, ?_⟩
      (have hBs := hB.size; (try simp only [World.size_alloc] at hBs); repeat' (first | (with_reducible exact hB) | (with_reducible exact hBs) | (with_reducible refine Below.drew ?_) | (with_reducible refine below_drewN ?_ _) | (with_reducible refine Below.setCell ?_ ?_ _) | (with_reducible refine Below.alloc ?_ ?_ _) | go_size | omega | (simp; omega)))
  · rw [ofR_no hm] at HM
    simp only [hm, false_and, if_false]
    have HM := Lib.hid HM
    clear hm HA h0
    simp only [ratV] at HM ⊢
    go_enter Tryz.func71, Tryz.ntmps71
    go_wp2_with fail
    refine (HM.out _).mono ?_; rintro e w1 ⟨rfl, hb1⟩
    obtain ⟨hc, hf⟩ := bcell hb1
    have hz := hb1.size
    simp only [World.size_alloc] at hc hf hz
    have hB : Below w.heap.size w w1 := ((((Below.refl _ w).alloc (Nat.le_refl _) _).alloc (by simp) _).alloc (by simp; omega) _).trans (hb1.mono (by simp; omega))
    have k2 : w.heap.size + 1 + 1 < w1.heap.size := by omega
    go_wp2
    refine bodyPost_ret (v := ratV (0, 0, 3)) (by simp [results, Tryz.results71, go_sem, ratV, hc, k2]) rfl ⟨rfl, ?_⟩
    (have hBs := hB.size; (try simp only [World.size_alloc] at hBs); repeat' (first | (with_reducible exact hB) | (with_reducible exact hBs) | (with_reducible refine Below.drew ?_) | (with_reducible refine below_drewN ?_ _) | (with_reducible refine Below.setCell ?_ ?_ _) | (with_reducible refine Below.alloc ?_ ?_ _) | go_size | omega | (simp; omega)))
end Go.Proofs.YtaanhddgmiggfaaGreat
