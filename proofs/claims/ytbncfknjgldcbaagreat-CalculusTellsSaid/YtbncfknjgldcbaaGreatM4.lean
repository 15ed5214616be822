/- Merged texts: Meet, Breaks, RMath, Kept, Yes. -/
import Derived.Test.YtbncfknjgldcbaaGreatM3
/- curve.meeting at every two buckets. -/
namespace Go.Proofs.YtbncfknjgldcbaaGreat
open Go.RowKit Go.Joins Num

/-- What rat.Div returns at valid numbers. -/
def divQ (r s : Rat) : Int × Int × Int := if s = 0 then (0, 0, 2) else ofR (r / s)
theorem div_q {r s : Rat} (hr : Fit r) (hs : Fit s) (w : World) : Calls Tryz.prog 70 #[.agg #[.int .i64 r.num, .int .i64 r.den], .agg #[.int .i64 s.num, .int .i64 s.den]] w fun e w' => e = .returned (ratV (divQ r s)) ∧ Below w.heap.size w w' := by
  unfold divQ
  by_cases h0 : s = 0
  · rw [if_pos h0]
    subst h0
    have h1 := fit_bd hr
    have hd : divN r.num r.den (0 : Rat).num (0 : Rat).den = (0, 0, 2) := by
      unfold divN mkN
      have e : ((r.den : Int) * (0 : Rat).num) = 0 := by simp
      rw [e]
      split <;> simp
    rw [← hd]
    exact div_any _ _ _ _ w (by omega) (by omega) (by omega) (by omega) (by decide) (by decide) (by decide) (by decide)
  · rw [if_neg h0]
    exact div_r hr hs w h0

/-- What curve.meeting returns. -/
def meetW (b r c s : Rat) : Int × Int × Int := if Fit (c - b) ∧ Fit (r - s) then divQ (c - b) (r - s) else (0, 0, 3)
set_option maxHeartbeats 2000000 in
theorem meeting_q {b r c s : Rat} (hb : Fit b) (hr : Fit r) (hc : Fit c) (hs : Fit s) (w : World) :
    Calls Tryz.prog 63 #[.agg #[.int .i64 b.num, .int .i64 b.den, .int .i64 r.num, .int .i64 r.den], .agg #[.int .i64 c.num, .int .i64 c.den, .int .i64 s.num, .int .i64 s.den]] w fun e w' => e = .returned (ratV (meetW b r c s)) ∧ Below w.heap.size w w' := by
  unfold meetW
  have HM : ∀ W : World, _ := fun W => sub_r hc hb W
  have HA : ∀ W : World, _ := fun W => sub_r hr hs W
  by_cases hm : Fit (c - b)
  · simp only [hm, true_and]
    by_cases ha : Fit (r - s)
    · have HD : ∀ W : World, _ := fun W => div_q hm ha W
      rw [ofR_yes ha] at HA
      rw [ofR_yes hm] at HM
      rw [if_pos ha]
      generalize (r - s).num = q1 at HA HD
      generalize ((r - s).den : Int) = q2 at HA HD
      generalize (c - b).num = m1 at HM HD
      generalize ((c - b).den : Int) = m2 at HM HD
      generalize hq : divQ (c - b) (r - s) = q at HD ⊢
      obtain ⟨p1, p2, p3⟩ := q
      have HM := Lib.hid HM
      have HA := Lib.hid HA
      have HD := Lib.hid HD
      clear hm ha hq
      simp only [ratV] at HM HA HD ⊢
      go_enter Tryz.func63, Tryz.ntmps63
      go_wp2_with fail
      refine (HM.out _).mono ?_; rintro e w1 ⟨rfl, hb1⟩
      obtain ⟨hc, hf⟩ := bcell hb1
      have hz := hb1.size
      simp only [World.size_alloc] at hc hf hz
      have k0 : w.heap.size < w1.heap.size := by omega
      have k1 : w.heap.size + 1 < w1.heap.size := by omega
      go_wp2_with fail
      refine (HA.out _).mono ?_; rintro e w2 ⟨rfl, hb2⟩
      have hx := (Has.new w1 m1 m2 25).keep hb2
      replace hb2 := below_allocs1 hb1 hb1.size hb2
      clear hc hf hz k0 k1
      have x0 := (hx.alloc (.cells #[.int .i64 q1, .int .i64 q2] 25)).c0
      have x1 := (hx.alloc (.cells #[.int .i64 q1, .int .i64 q2] 25)).c1
      clear hb1
      generalize w1.heap.size = b1 at *
      go_wp2_with fail
      refine (HD.out _).mono ?_; rintro e w3 ⟨rfl, hb3⟩
      replace hb3 := below_allocs1 hb2 hb2.size hb3
      clear hb2
      obtain ⟨hc, hf⟩ := bcell hb3
      have hz := hb3.size
      simp only [World.size_alloc] at hc hf hz
      have hB : Below w.heap.size w w3 := ((((Below.refl _ w).alloc (Nat.le_refl _) _).alloc (by simp) _).alloc (by simp; omega) _).trans (hb3.mono (by simp; omega))
      have k2 : w.heap.size + 1 + 1 < w3.heap.size := by omega
      go_wp2
      refine bodyPost_ret (v := ratV (p1, p2, p3)) (by simp [results, Tryz.results63, go_sem, ratV, hc]) rfl ⟨rfl, ?_⟩
      (have hBs := hB.size; (try simp only [World.size_alloc] at hBs); repeat' (first | (with_reducible exact hB) | (with_reducible exact hBs) | (with_reducible refine Below.drew ?_) | (with_reducible refine below_drewN ?_ _) | (with_reducible refine Below.setCell ?_ ?_ _) | (with_reducible refine Below.alloc ?_ ?_ _) | go_size | omega | (simp; omega)))
    · rw [ofR_no ha] at HA
      rw [ofR_yes hm] at HM
      rw [if_neg ha]
      have HM := Lib.hid HM
      have HA := Lib.hid HA
      clear hm ha
      simp only [ratV] at HM HA ⊢
      go_enter Tryz.func63, Tryz.ntmps63
      go_wp2_with fail
      refine (HM.out _).mono ?_; rintro e w1 ⟨rfl, hb1⟩
      obtain ⟨hc, hf⟩ := bcell hb1
      have hz := hb1.size
      simp only [World.size_alloc] at hc hf hz
      have k0 : w.heap.size < w1.heap.size := by omega
      have k1 : w.heap.size + 1 < w1.heap.size := by omega
      go_wp2_with fail
      refine (HA.out _).mono ?_; rintro e w2 ⟨rfl, hb2⟩
      replace hb2 := below_allocs1 hb1 hb1.size hb2
      clear hc hf hz k0 k1
      obtain ⟨hc, hf⟩ := bcell hb2
      have hz := hb2.size
      simp only [World.size_alloc] at hc hf hz
      have hB : Below w.heap.size w w2 := ((((Below.refl _ w).alloc (Nat.le_refl _) _).alloc (by simp) _).alloc (by simp; omega) _).trans (hb2.mono (by simp; omega))
      have k2 : w.heap.size + 1 + 1 < w2.heap.size := by omega
      clear hb1
      go_wp2
      refine bodyPost_ret (v := ratV (0, 0, 3)) (by simp [results, Tryz.results63, go_sem, ratV, hc, k2]) rfl ⟨rfl, ?_⟩
      (have hBs := hB.size; (try simp only [World.size_alloc] at hBs); repeat' (first | (with_reducible exact hB) | (with_reducible exact hBs) | (with_reducible refine Below.drew ?_) | (with_reducible refine below_drewN ?_ _) | (with_reducible refine Below.setCell ?_ ?_ _) | (with_reducible refine Below.alloc ?_ ?_ _) | go_size | omega | (simp; omega)))
  · rw [ofR_no hm] at HM
    simp only [hm, false_and, if_false]
    have HM := Lib.hid HM
    clear hm HA
    simp only [ratV] at HM ⊢
    go_enter Tryz.func63, Tryz.ntmps63
    go_wp2_with fail
    refine (HM.out _).mono ?_; rintro e w1 ⟨rfl, hb1⟩
    obtain ⟨hc, hf⟩ := bcell hb1
    have hz := hb1.size
    simp only [World.size_alloc] at hc hf hz
    have hB : Below w.heap.size w w1 := ((((Below.refl _ w).alloc (Nat.le_refl _) _).alloc (by simp) _).alloc (by simp; omega) _).trans (hb1.mono (by simp; omega))
    have k2 : w.heap.size + 1 + 1 < w1.heap.size := by omega
    go_wp2
    refine bodyPost_ret (v := ratV (0, 0, 3)) (by simp [results, Tryz.results63, go_sem, ratV, hc, k2]) rfl ⟨rfl, ?_⟩
    (have hBs := hB.size; (try simp only [World.size_alloc] at hBs); repeat' (first | (with_reducible exact hB) | (with_reducible exact hBs) | (with_reducible refine Below.drew ?_) | (with_reducible refine below_drewN ?_ _) | (with_reducible refine Below.setCell ?_ ?_ _) | (with_reducible refine Below.alloc ?_ ?_ _) | go_size | omega | (simp; omega)))
end Go.Proofs.YtbncfknjgldcbaaGreat
/- curve.Breaks. -/
namespace Go.Proofs.YtbncfknjgldcbaaGreat
open Go.RowKit Go.Joins Go.Shelf Go.Sort Num
attribute [local go_sem] Oper.semAt_some

def okm (p : Buck × Buck) : Prop := (Fit (p.2.b - p.1.b) ∧ Fit (p.1.r - p.2.r)) ∧ (p.1.r - p.2.r ≠ 0 ∧ Fit ((p.2.b - p.1.b) / (p.1.r - p.2.r)))
instance (p : Buck × Buck) : Decidable (okm p) := inferInstanceAs (Decidable (_ ∧ _))
def meetQ (p : Buck × Buck) : Rat := (p.2.b - p.1.b) / (p.1.r - p.2.r)
def mkPt (q : Rat) : Pt := if h : Fit q then ⟨q, h⟩ else default
def meetP (p : Buck × Buck) : Pt := mkPt (meetQ p)
/-- The error, where there is one. -/
def errM (p : Buck × Buck) : Int := if (Fit (p.2.b - p.1.b) ∧ Fit (p.1.r - p.2.r)) ∧ p.1.r - p.2.r = 0 then 2 else 3
def errL (l : List (Buck × Buck)) : Int := match l.getLast? with | some p => errM p | none => 3
theorem errL_snoc (l : List (Buck × Buck)) (p : Buck × Buck) : errL (l ++ [p]) = errM p := by unfold errL; rw [List.getLast?_concat]
theorem meetP_q {p : Buck × Buck} (h : okm p) : (meetP p).q = meetQ p := by unfold meetP mkPt; rw [dif_pos (show Fit (meetQ p) from h.2.2)]
theorem meetW_ok {p : Buck × Buck} (h : okm p) : meetW p.1.b p.1.r p.2.b p.2.r = ((meetQ p).num, ((meetQ p).den : Int), 0) := by
  unfold meetW divQ; rw [if_pos h.1, if_neg h.2.1]; exact ofR_yes h.2.2
theorem meetW_no {p : Buck × Buck} (h : ¬ okm p) : meetW p.1.b p.1.r p.2.b p.2.r = (0, 0, errM p) := by
  unfold meetW errM
  by_cases h1 : Fit (p.2.b - p.1.b) ∧ Fit (p.1.r - p.2.r)
  · rw [if_pos h1]
    unfold divQ
    by_cases h2 : p.1.r - p.2.r = 0
    · rw [if_pos h2, if_pos ⟨h1, h2⟩]
    · rw [if_neg h2, if_neg (fun h => h2 h.2)]; exact ofR_no fun h3 => h ⟨h1, h2, h3⟩
  · rw [if_neg h1, if_neg (fun h => h1 h.1)]
theorem meet_cells {p : Buck × Buck} (h : okm p) : (meetP p).cells = [.int .i64 (meetQ p).num, .int .i64 (meetQ p).den] := by unfold Pt.cells; rw [meetP_q h]
theorem meet_ne {p : Buck × Buck} (h : p.1.bef p.2) : p.1.r - p.2.r ≠ 0 := by
  intro e
  have := h.2
  rw [show p.1.r = p.2.r by rw [Rat.sub_eq_add_neg] at e; have := congrArg (· + p.2.r) e; simpa [Rat.add_assoc, Rat.neg_add_cancel, Rat.add_zero, Rat.zero_add] using this] at this
  exact Rat.lt_irrefl this
theorem errM_bef {p : Buck × Buck} (h : p.1.bef p.2) : errM p = 3 := if_neg fun k => meet_ne h k.2
theorem errM_pos (p : Buck × Buck) : errM p = 2 ∨ errM p = 3 := by unfold errM; split <;> simp
/-- The breakpoints of a normal form. -/
def brkL (n : List Buck) : List Pt := compL (sortP ((twosL n).map meetP))
/-- The points in a slice of the call's own. -/
def SlP (W : World) (A : Option Addr) (c : List Pt) : Prop := c ≠ [] → ∃ g, A = some ⟨g, 0, none⟩ ∧ g < W.heap.size ∧ Row2 W g 0 c
def BreaksPost (n : List Buck) (w : World) (e : Ending) (w' : World) : Prop :=
  ((¬ ∀ p ∈ twosL n, okm p) → e = .returned (.tuple #[.slice none 0 0, .int .i64 3])) ∧
  ((∀ p ∈ twosL n, okm p) → ∃ A cap, e = .returned (.tuple #[.slice A (brkL n).length cap, .int .i64 0]) ∧ SlP w' A (brkL n)) ∧ Below w.heap.size w w'

set_option maxHeartbeats 1000000 in
theorem breaks_bad (A : Option Addr) (cap : Nat) (c : List Bk) (hlen : c.length ≤ 1048576) (hbd : ∀ x ∈ c, x.bd64) (w : World) (hI : SlR w.heap.size w (.slice A c.length cap) c) (hbad : valC c = false) :
    CallsIn Fence.wide 9 Tryz.prog 23 #[.slice A c.length cap] w fun e w' => e = .returned (.tuple #[.slice none 0 0, .int .i64 2]) ∧ Below w.heap.size w w' := by
  have hro : Fence.wide.round = none := rfl
  have hB0 := ((Below.refl w.heap.size w).alloc (Nat.le_refl _) (.cells #[.slice none 0 0] 44)).alloc (by simp) (.cells #[.int .i64 0] 27)
  have HV := callsIn_wide (n := 8).2 (valid_c A cap c hlen hbd _ ((hI.below hB0 (Nat.le_refl _)).more hB0.size))
  clear hI hbd
  rw [hbad] at HV
  refine callsIn_of_wp_marks Tryz.func23 rfl trivial ?_ hro
  simp only [Tryz.ntmps23, List.size_toArray, List.length_cons, List.length_nil, Nat.reduceAdd, Nat.reduceSub, Array.replicate_succ, Array.replicate_zero, List.push_toArray, List.append_toArray, List.nil_append, List.cons_append]
  gi_wp2_with fail
  refine ⟨trivial, ?_⟩
  (with_reducible refine HV.mono ?_); rintro e w1 ⟨rfl, hb1⟩
  obtain ⟨hc, hf⟩ := bcell hb1
  have hz := hb1.size
  simp only [World.size_alloc] at hc hf hz
  have hB := hB0.trans (hb1.mono hB0.size)
  have b4 := ((BoxN.new w 44 #[.slice none 0 0]).alloc (.cells #[.int .i64 0] 27)).below hb1 (by simp; omega)
  have b5 := (BoxN.new (w.alloc (.cells #[.slice none 0 0] 44)) 27 #[.int .i64 0]).below hb1 (by simp)
  rw [World.size_alloc] at b5
  gi_wp2
  obtain ⟨q4, q5⟩ := res2 (.slice none 0 0) (.int .i64 2) b4 b5 (by omega)
  have r4 := q4.cell 0
  have r5 := q5.cell 0
  refine ⟨.tuple #[.slice none 0 0, .int .i64 2], by simp [results, Tryz.f23, go_sem, r4, r5], rfl, ?_⟩
  (have hBs := hB.size; (try simp only [World.size_alloc] at hBs); repeat' (first | (with_reducible exact hB) | (with_reducible exact hBs) | (with_reducible refine Below.drew ?_) | (with_reducible refine below_drewN ?_ _) | (with_reducible refine Below.setCell ?_ ?_ _) | (with_reducible refine Below.alloc ?_ ?_ _) | go_size | omega | (simp; omega)))

theorem own_up {W : World} {base : Nat} {t : TypeId} {u v : Value} {e : TypeId} {size n : Nat} {xs : List Value} (hb : Boxed W base t u) (hte : t ≠ e) (h : W.ownsRow base e size v n xs) : W.ownsRow (base + 1) e size v n xs := by
  have hne := hb.not_row hte h
  refine ⟨h.1, ?_⟩
  rcases h.2 with h2 | ⟨g, cap, cur, e1, e2, e3⟩
  · exact .inl h2
  · refine .inr ⟨g, cap, cur, e1, ?_, e3⟩
    rw [e1] at hne
    have : base ≠ g := fun h => hne (by rw [h]; rfl)
    omega
theorem Own4.frWc {base : Nat} {W : World} {v : Value} {c : List Buck} (h : Own4 base W v c) : ∃ A cap, v = .slice A c.length cap ∧ c.length ≤ cap ∧ (c ≠ [] → ∃ g cs t, A = some ⟨g, 0, none⟩ ∧ base ≤ g ∧ W.heap[g]? = some (.cells cs t (0, 0)) ∧ Row W g 0 c) := by
  by_cases hc : c = []
  · subst hc
    exact ⟨none, 0, h.2.2 rfl, Nat.le_refl _, fun h => absurd rfl h⟩
  · obtain ⟨g, cap, rfl, hb, hlt⟩ := h.1.form (List.length_pos_iff.2 hc)
    rcases h.1.2 with ⟨e, _⟩ | ⟨g', cap', cur, e, _, e3, e4, _⟩
    · cases e
    · simp only [Value.slice.injEq, Option.some.injEq, Addr.mk.injEq, and_true, true_and] at e
      obtain ⟨rfl, rfl⟩ := e
      exact ⟨_, cap, rfl, e4, fun _ => ⟨g, cur, _, rfl, hb, e3, row_of_holdsK (holdsK_of_own h.1)⟩⟩

theorem compact_any (base : Nat) (v : Value) (c : List Pt) (hlen : c.length ≤ 1048576) (w : World) (ho : w.ownsRow base 25 2 v c.length (ptsOf c)) (hnil : v = .slice none 0 0 ↔ c = []) :
    Calls Tryz.prog 65 #[v] w fun e w' => ∃ A cap, e = .returned (.slice A (compL c).length cap) ∧ w.grownBy w' v.ownBlock ∧ (compL c ≠ [] → ∃ g, A = some ⟨g, 0, none⟩ ∧ v.ownBlock = some g ∧ g < w'.heap.size ∧ Row2 w' g 0 (compL c)) := by
  by_cases hc : c = []
  · subst hc
    obtain rfl : v = .slice none 0 0 := hnil.2 rfl
    clear ho hnil
    go_enter Tryz.func65, Tryz.ntmps65
    go_wp2
    go_ret
    exact ⟨none, 0, rfl, gb_refl _ _, fun h => absurd rfl h⟩
  · obtain ⟨g, cap, rfl, hb, hlt⟩ := ho.form (List.length_pos_iff.2 hc)
    exact (compact_own base g cap c hlen w ho).mono fun e w' ⟨h1, h2, h3, h4⟩ => ⟨some ⟨g, 0, none⟩, cap, h1, h2, fun _ => ⟨g, rfl, rfl, h4, h3⟩⟩

set_option maxRecDepth 100000 in
set_option maxHeartbeats 8000000 in
theorem breaks_in (A : Option Addr) (ca : Nat) (a : List Buck) (ha1 : 1 ≤ a.length) (ha2 : a.length ≤ 32) (w : World) (hIa : Sl w.heap.size w (.slice A a.length ca) a) :
    CallsIn Fence.wide 9 Tryz.prog 23 #[.slice A a.length ca] w (BreaksPost (normL a) w) := by
  have hro : Fence.wide.round = none := rfl
  obtain ⟨i0, hi, hz0, hz1, hz2⟩ := info_parts infoR
  have hB0 := ((Below.refl w.heap.size w).alloc (Nat.le_refl _) (.cells #[.slice none 0 0] 44)).alloc (by simp) (.cells #[.int .i64 0] 27)
  have HV := callsIn_wide (n := 8).2 (valid_ok ha1 ha2 ((hIa.below hB0 (Nat.le_refl _)).more hB0.size))
  have HA : Hid (∀ W : World, Below w.heap.size w W → CallsIn Fence.wide 8 Tryz.prog 57 #[.slice A a.length ca] W fun e w' => ∃ v, e = .returned v ∧ Own4 W.heap.size w' v (normL a) ∧ Below W.heap.size W w') := fun W hb => callsIn_wide.2 ((normal_any A ca a (by omega) W ((hIa.below hb (Nat.le_refl _)).more hb.size)).mono fun e w' ⟨v, h1, h2, h3, h4⟩ => ⟨v, h1, ⟨h2, h3⟩, h4⟩)
  have HP : Hid (∀ (A : Option Addr) (la ca : Nat) (W : World), _) := fun A la ca W => twos_in Fence.wide 8 trivial rfl A la ca W
  have hnl : (normL a).length ≤ 32 := Nat.le_trans (normL_len a) ha2
  have hbef := Lib.hid (twosL_mem (normL_nf a).o)
  clear hIa
  refine callsIn_of_wp_marks Tryz.func23 rfl trivial ?_ hro
  simp only [Tryz.ntmps23, List.size_toArray, List.length_cons, List.length_nil, Nat.reduceAdd, Nat.reduceSub, Array.replicate_succ, Array.replicate_zero, List.push_toArray, List.append_toArray, List.nil_append, List.cons_append]
  gi_wp2_with fail
  refine ⟨trivial, ?_⟩
  (with_reducible refine HV.mono ?_); rintro e w1 ⟨rfl, hb1⟩
  have hB1 := hB0.trans (hb1.mono hB0.size)
  have b4 := ((BoxN.new w 44 #[.slice none 0 0]).alloc (.cells #[.int .i64 0] 27)).below hb1 (by simp; omega)
  have b5 := (BoxN.new (w.alloc (.cells #[.slice none 0 0] 44)) 27 #[.int .i64 0]).below hb1 (by simp)
  rw [World.size_alloc] at b5
  have hBp := hB1.alloc hB1.size (.cells #[.slice none 0 0] 44)
  have HA1 := HA.out _ hBp
  have hwB : w.heap.size ≤ w1.heap.size := hB1.size
  clear HV HA hB0 hb1
  gi_wp2_with fail
  refine ⟨trivial, ?_⟩
  (with_reducible refine HA1.mono ?_); rintro e w2 ⟨va, rfl, hoa, hb2⟩
  have b5l : w.heap.size + 1 < w1.heap.size := b5.lt
  replace b4 := (b4.alloc (.cells #[.slice none 0 0] 44)).below hb2 (by simp; omega)
  replace b5 := (b5.alloc (.cells #[.slice none 0 0] 44)).below hb2 (by simp; omega)
  have bO0 : Boxed w2 w1.heap.size 44 (.slice none 0 0) := (hb2.block _ (by simp)).trans (Boxed.new w1 44 (.slice none 0 0))
  have hB2 := hBp.trans (hb2.mono hBp.size)
  have hzz := hb2.size
  rw [World.size_alloc] at hzz
  obtain ⟨Aa, cca, rfl, hcc, hra⟩ := hoa.frWc
  clear hoa HA1 hb2 hBp
  generalize hna : normL a = na at *
  clear hna
  have HP1 := HP.out Aa na.length cca w2
  gi_wp2_with fail
  refine ⟨trivial, ?_⟩
  (with_reducible refine HP1.mono ?_); rintro e w3 ⟨rfl, rfl⟩
  have bO := bO0.alloc (.cells #[.slice Aa na.length cca] 23)
  have hW0 : Below w2.heap.size w2 (w2.alloc (.cells #[.slice Aa na.length cca] 23)) := (Below.refl _ _).alloc (Nat.le_refl _) _
  have bA := BoxN.new w2 23 #[.slice Aa na.length cca]
  have hsz : (w2.alloc (.cells #[.slice Aa na.length cca] 23)).heap.size = w2.heap.size + 1 := by simp
  generalize w2.alloc (.cells #[.slice Aa na.length cca] 23) = W0 at bO hW0 bA hsz ⊢
  have sA : BoxSc w1.heap.size W0 w2.heap.size 23 na := ⟨fr_nil bO bA (by omega), Aa, cca, bA, hcc, fun h => by
    obtain ⟨g, cs, t, e, hbg, hg, hr⟩ := hra h
    have hgl := (Array.getElem?_eq_some_iff.1 hg).1
    rw [World.size_alloc] at hbg
    exact ⟨g, 0, e, fr_nil bO ((hW0.block g hgl).trans hg) (by omega), hr.same (hW0.block g hgl)⟩⟩
  have hgd := good_nil bO
  clear bA hra
  replace b4 := b4.below hW0 b4.lt
  replace b5 := b5.below hW0 b5.lt
  have hBq := hB2.trans (hW0.mono hB2.size)
  have htl : (twosL na).length ≤ 1024 := Nat.le_trans (twosL_length na) (Nat.le_trans (Nat.mul_le_mul hnl hnl) (by decide))
  clear HP1 HP hB1 hB2 hcc
  generalize w2.heap.size = bC at *
  generalize hbp : w1.heap.size = bp at *
  clear hbp
  have HAd : Hid (∀ (p : Buck × Buck) (W : World), CallsIn Fence.wide 6 Tryz.prog 63 #[.agg p.1.cells.toArray, .agg p.2.cells.toArray] W fun e w' => e = .returned (ratV (meetW p.1.b p.1.r p.2.b p.2.r)) ∧ Below W.heap.size W w') := fun p W => callsIn_wide.2 (meeting_q p.1.hb p.1.hr p.2.hb p.2.hr W)
  gi_wp2
  refine wpIn_rangeFunc_ownH hro (by decide) (gf := 101) (lb := #[.pointer (some ⟨bC, 0, none⟩)]) rfl trivial (enters_of Tryz.func101 (by kernel_rfl) rfl)
    (twos_stops Fence.wide 8 trivial rfl (by decide) bC bp bp na (by omega) W0 (by omega) hgd sA) Kp2.t (Kp2.b (by omega) (by omega)) (Below.refl _ _) (fun _ => rfl)
    (fun pre W => ((∃ v, Boxed W bp 44 v ∧ W.ownsRow bp 25 2 v pre.length (ptsOf (pre.map meetP)) ∧ (v = .slice none 0 0 ↔ pre = [])) ∧ (∀ p ∈ pre, okm p)) ∧ Below bp W0 W)
    (fun c pre W => ((c = .ret ∧ ∃ p, pre.getLast? = some p ∧ ¬ okm p) ∧ (BoxN W w.heap.size 44 #[.slice none 0 0] ∧ BoxN W (w.heap.size + 1) 27 #[.int .i64 (errL pre)])) ∧ Below w.heap.size w W)
    (OwnFrom.and (OwnFrom.and (Own.from (holdsRow_own bp bp 44 25 2 (fun pre : List (Buck × Buck) => pre.length) (fun pre => ptsOf (pre.map meetP)) (fun pre v => v = .slice none 0 0 ↔ pre = [])) _) (ownFrom_pure _ _)) (ownFrom_below (by omega) (by omega)))
    (fun c => OwnFrom.and (OwnFrom.and (ownFrom_pure _ _) (OwnFrom.and (Own.from (boxN_own _ _ (fun _ : List (Buck × Buck) => #[.slice none 0 0])) _) (Own.from (boxN_own _ _ (fun l : List (Buck × Buck) => #[.int .i64 (errL l)])) _))) (ownFrom_below (Nat.le_refl _) (by omega)))
    ⟨⟨⟨_, bO, World.ownsRow_nil _ _ _ _, by simp⟩, by simp⟩, Below.refl _ _⟩
    (fun p a' W => ∃ Bx By, (bp < Bx ∧ bp < By) ∧ (BoxN W Bx 80 p.1.cells.toArray ∧ BoxN W By 80 p.2.cells.toArray) ∧ a' = { tmps := #[.slice A a.length ca, undef, .pointer (some ⟨w.heap.size, 0, none⟩), .pointer (some ⟨w.heap.size + 1, 0, none⟩), .pointer (some ⟨bp, 0, none⟩), .pointer (some ⟨Bx, 0, none⟩), .pointer (some ⟨By, 0, none⟩), undef, undef, .slice A a.length ca, .bool true, .bool false, .slice A a.length ca, .slice Aa na.length cca, .func (.func 101) #[] #[.pointer (some ⟨bC, 0, none⟩)], .agg p.1.cells.toArray, .agg p.2.cells.toArray, undef, undef, undef, undef, undef, undef, undef, undef, undef, undef, undef, undef, undef, undef, undef, undef, undef], defers := [] })
    (fun p a' _ X Y row hs hg hr => by obtain ⟨Bx, By, h1, ⟨h2, h3⟩, h4⟩ := hs; exact ⟨Bx, By, h1, ⟨boxN_own Bx 80 (fun (_ : Unit) => p.1.cells.toArray) () X Y row h2 hg (fun r e => (hr r e).2), boxN_own By 80 (fun (_ : Unit) => p.2.cells.toArray) () X Y row h3 hg (fun r e => (hr r e).2)⟩, h4⟩)
    ?assign ?body ?done ?stop
  case assign =>
    rintro l pre p W K ⟨⟨⟨v, hv, hrow, hnil⟩, hok⟩, hB⟩ hK
    simp only [Buck.cells] at hK ⊢
    gi_wp2
    have hx1 : Below W.heap.size W ((W.alloc (.cells #[.int .i64 p.1.b.num, .int .i64 p.1.b.den, .int .i64 p.1.r.num, .int .i64 p.1.r.den] 80)).alloc (.cells #[.int .i64 p.2.b.num, .int .i64 p.2.b.den, .int .i64 p.2.r.num, .int .i64 p.2.r.den] 80)) := ((Below.refl _ _).alloc (Nat.le_refl _) _).alloc (by simp) _
    have hWz := hB.size
    have hvl := hv.lt
    exact hK _ _ (keepsFrom_below hx1) ⟨hx1.mono (by omega), Kf.below hx1 hv.lt⟩ ⟨⟨⟨v, (hv.alloc _).alloc _, (hrow.alloc _).alloc _, hnil⟩, hok⟩, hB.trans (hx1.mono (by omega))⟩
      ⟨W.heap.size, W.heap.size + 1, ⟨by omega, by omega⟩, ⟨(BoxN.new W _ _).alloc _, by have := BoxN.new (W.alloc (.cells #[.int .i64 p.1.b.num, .int .i64 p.1.b.den, .int .i64 p.1.r.num, .int .i64 p.1.r.den] 80)) 80 #[.int .i64 p.2.b.num, .int .i64 p.2.b.den, .int .i64 p.2.r.num, .int .i64 p.2.r.den]; rwa [World.size_alloc] at this⟩, rfl⟩
  case body =>
    rintro l pre p a' W hl ⟨r, hr⟩ ⟨⟨⟨v, hv, hrow, hnil⟩, hok⟩, hB⟩ ⟨Bx, By, ⟨hBx, hBy⟩, ⟨bX, bY⟩, rfl⟩ hlt
    have hWz := hB.size
    have hvl := hv.lt
    have x0 : W.cell? ⟨Bx, 0, none⟩ = some (.int .i64 p.1.b.num) := bX.cell 0
    have x1 : W.cell? ⟨Bx, 1, none⟩ = some (.int .i64 p.1.b.den) := bX.cell 1
    have x2 : W.cell? ⟨Bx, 2, none⟩ = some (.int .i64 p.1.r.num) := bX.cell 2
    have x3 : W.cell? ⟨Bx, 3, none⟩ = some (.int .i64 p.1.r.den) := bX.cell 3
    have y0 : W.cell? ⟨By, 0, none⟩ = some (.int .i64 p.2.b.num) := bY.cell 0
    have y1 : W.cell? ⟨By, 1, none⟩ = some (.int .i64 p.2.b.den) := bY.cell 1
    have y2 : W.cell? ⟨By, 2, none⟩ = some (.int .i64 p.2.r.num) := bY.cell 2
    have y3 : W.cell? ⟨By, 3, none⟩ = some (.int .i64 p.2.r.den) := bY.cell 3
    have hc := hv.cell
    have HAp := HAd.out p
    by_cases hka : okm p
    · rw [meetW_ok hka] at HAp
      have hsn := ptsOf_snoc (pre.map meetP) (meetP p)
      rw [meet_cells hka] at hsn
      generalize (meetQ p).num = tn at HAp hsn
      generalize ((meetQ p).den : Int) = td at HAp hsn
      have HAp := Lib.hid HAp
      have hSn : Hid (ptsOf ((pre ++ [p]).map meetP) = ptsOf (pre.map meetP) ++ [.int .i64 tn, .int .i64 td]) := by unfold Hid; rw [List.map_append]; exact hsn
      have hone : ∀ u ∈ [Value.int .i64 tn, .int .i64 td], u.oneCell' = true := by
        intro u hu
        simp only [List.mem_cons, List.not_mem_nil, or_false] at hu
        rcases hu with rfl | rfl <;> rfl
      have hlt2 : pre.length < 1024 := by omega
      clear hsn
      simp only [ratV, Buck.cells] at HAp ⊢
      gi_wp2_with fail
      refine ⟨trivial, ?_⟩
      (with_reducible refine (CallsIn.inRound l (HAp.out _)).mono ?_); rintro e w5 ⟨rfl, hb5⟩
      have hz5 := hb5.size
      have hv5 : Boxed w5 bp 44 v := (hb5.block _ hv.lt).trans hv
      have ho5 := own_below hrow hb5
      have hc5 : w5.cell? ⟨bp, 0, none⟩ = some v := hv5.cell
      have k5v : bp < w5.heap.size := hv5.lt
      have hNew : ((w5.alloc (.cells #[.int .i64 tn, .int .i64 td] 25)).alloc (.cells #[.int .i64 tn, .int .i64 td] 25)).heap[w5.heap.size + 1]? = some (.cells #[.int .i64 tn, .int .i64 td] 25 (0, 0)) := by simpa using heap_alloc_new (w5.alloc (.cells #[.int .i64 tn, .int .i64 td] 25)) (.cells #[.int .i64 tn, .int .i64 td] 25)
      have hNews := Lib.hid (World.news_of_block hNew)
      have hrow3 := (ho5.alloc (.cells #[.int .i64 tn, .int .i64 td] 25)).alloc (.cells #[.int .i64 tn, .int .i64 td] 25)
      have hv3 := (hv5.alloc (.cells #[.int .i64 tn, .int .i64 td] 25)).alloc (.cells #[.int .i64 tn, .int .i64 td] 25)
      clear hNew
      gi_wp2_with (gi_at_builtin; refine wpListIn_append_at _ rfl _ _ 44 rfl bp 25 i0 _ 2 16 Tryz.underlying44 hi hz0 hz1 hz2 rfl (by decide) _ _ _ rfl hrow3 ⟨w5.heap.size + 1, 0, none⟩ 1 1 [.int .i64 tn, .int .i64 td] rfl rfl hNews.out hone (by unfold maxLen; omega) (by omega) (by simp; omega) ?_; intro v' w6 hown' hgrow hat; obtain ⟨g', cap', rfl⟩ := ownsRow_succ hown'; obtain ⟨hv1, hv2, hr2, hk2, hb2⟩ := (hv5.alloc (.cells #[.int .i64 tn, .int .i64 td] 25)).appended (by decide) (ho5.alloc (.cells #[.int .i64 tn, .int .i64 td] 25)) (by simp; omega) (Nat.le_refl _) hown' hgrow; have hc1 := hv1.cell; have hf1 := hv1.frozen)
      have hBW : Below bp W (w6.setCell ⟨bp, 0, none⟩ (.slice (some ⟨g', 0, none⟩) (pre.length + 1) cap')) := (hb5.mono (by omega)).trans (((Below.refl _ _).alloc (by omega) _).trans hb2)
      have hAA : Below w5.heap.size w5 ((w5.alloc (.cells #[.int .i64 tn, .int .i64 td] 25)).alloc (.cells #[.int .i64 tn, .int .i64 td] 25)) := ((Below.refl _ _).alloc (Nat.le_refl _) _).alloc (by simp) _
      refine ⟨(keepsFrom_below hb5).trans (((KeepsOthers.alloc _ _).trans hk2).from _), ⟨hBW, (Kf.below hb5 hv.lt).trans ((Kf.below hAA k5v).trans (Kf.app hv3 (by decide) hrow3 hown' hgrow hat))⟩, ⟨⟨_, hv2, ?_, by simp⟩, ?_⟩, hB.trans hBW⟩
      · rw [hSn.out, List.length_append]; exact hr2
      · intro q hq
        rcases List.mem_append.1 hq with hq | hq
        · exact hok q hq
        · simp at hq; subst hq; exact hka
    · rw [meetW_no hka] at HAp
      have hek := errM_pos p
      have hel := Lib.hid (errL_snoc pre p)
      generalize errM p = ek at HAp hek hel
      have hne : (ek != 0) = true := by rcases hek with rfl | rfl <;> rfl
      have hne2 : (ek == 0) = false := by rcases hek with rfl | rfl <;> rfl
      clear hek
      have HAp := Lib.hid HAp
      simp only [ratV, Buck.cells] at HAp ⊢
      gi_wp2_with fail
      refine ⟨trivial, ?_⟩
      (with_reducible refine (CallsIn.inRound l (HAp.out _)).mono ?_); rintro e w5 ⟨rfl, hb5⟩
      have q4 := (b4.below hB (by omega)).below hb5 (by omega)
      have q5 := (b5.below hB (by omega)).below hb5 (by omega)
      have c4 : w5.cell? ⟨w.heap.size, 0, none⟩ = some (.slice none 0 0) := q4.cell 0
      have c5 : w5.cell? ⟨w.heap.size + 1, 0, none⟩ = some (.int .i64 0) := q5.cell 0
      have f4 := q4.frozen 0
      have f5 := q5.frozen 0
      have k4 := q4.lt
      have k5 := q5.lt
      gi_wp2
      refine ⟨?_, ⟨⟨rfl, p, by simp, hka⟩, (res2 _ _ q4 q5 (by omega)).1.alloc _, by rw [hel.out]; exact (res2 _ _ q4 q5 (by omega)).2.alloc _⟩, ?_⟩
      · exact (keepsFrom_below hb5).trans ((((KeepsOthers.setCell _ _ _).trans (KeepsOthers.setCell _ _ _)).trans (KeepsOthers.alloc _ _)).from _)
      · have hBw : Below w.heap.size w w5 := hBq.trans ((hB.mono hwB).trans (hb5.mono (by omega)))
        exact ((hBw.setCell (p := ⟨w.heap.size, 0, none⟩) (Nat.le_refl _) _).setCell (p := ⟨w.heap.size + 1, 0, none⟩) (by simp) _).alloc (by simp [World.setCell]; omega) _
  case done =>
    rintro D ys W hD rfl ⟨⟨⟨v, hv, hrow, hnil⟩, hok⟩, hB⟩ hK
    have hWz := hB.size
    have hc := hv.cell
    have hO : W.ownsRow (bp + 1) 25 2 v ((twosL na).map meetP).length (ptsOf ((twosL na).map meetP)) := by rw [List.length_map]; exact own_up hv (by decide) hrow
    have hN : v = .slice none 0 0 ↔ (twosL na).map meetP = [] := by rw [List.map_eq_nil_iff]; exact hnil
    have hPl : ((twosL na).map meetP).length ≤ 1024 := by rw [List.length_map]; exact htl
    have Hok := Lib.hid hok
    have hBw : Below w.heap.size w W := hBq.trans (hB.mono hwB)
    have q4 := b4.below hB (by omega)
    have q5 := b5.below hB (by omega)
    have hbr : Hid (brkL na = compL (sortP ((twosL na).map meetP))) := rfl
    generalize (twosL na).map meetP = PL at *
    have hDv : v.ownBlock ≠ some D := fun e => by
      rcases hO.2 with ⟨e1, _⟩ | ⟨g, cap, cur, e1, _, e3, _⟩
      · rw [e1] at e; cases e
      · rw [e1] at e; cases e; rw [hK] at e3; cases e3
    have hvb : ∀ k, v.ownBlock = some k → bp + 1 ≤ k := fun k hk => own_block_le hO hk
    have hDl : D < W.heap.size := (Array.getElem?_eq_some_iff.1 hK).1
    have hS := callsIn_wide (n := 8).2 (sortFuncP_own (bp + 1) v PL (by omega) W hO hN)
    have HC : Hid (∀ W1 : World, W1.ownsRow (bp + 1) 25 2 v (sortP PL).length (ptsOf (sortP PL)) → _) := fun W1 h1 => callsIn_wide (n := 8).2 (compact_any (bp + 1) v (sortP PL) (by rw [sortP_length]; omega) W1 h1 (by
      rw [hN]
      constructor
      · intro h; rw [h]; exact List.length_eq_zero_iff.1 (sortP_length [])
      · intro h; have := sortP_length PL; rw [h] at this; exact List.length_eq_zero_iff.1 this.symm))
    rw [← hbr.out] at HC
    clear hN hO hrow hnil hok
    gi_wp2_with fail
    refine ⟨trivial, ?_⟩
    (with_reducible refine hS.mono ?_); rintro e w5 ⟨rfl, hg5, hO5⟩
    have hC1 := HC.out w5 hO5
    have hv5 := hv.kept hg5 (fun e => by have := hvb bp e.symm; omega)
    have hc5 := hv5.cell
    have p4 := BoxN.kept q4 hg5 (fun e => by have := hvb _ e.symm; omega)
    have p5 := BoxN.kept q5 hg5 (fun e => by have := hvb _ e.symm; omega)
    have hK5 : w5.heap[D]? = some (.deferred (some [])) := (hg5.block D hDl (fun e => hDv e.symm)).trans hK
    clear hS HC hO5 hc
    gi_wp2_with fail
    refine ⟨trivial, ?_⟩
    (with_reducible refine hC1.mono ?_); rintro e w6 ⟨A6, cc6, rfl, hg6, hr6⟩
    have hs56 := hg6.size
    have hs5 := hg5.size
    replace p4 := BoxN.kept p4 hg6 (fun e => by have := hvb _ e.symm; omega)
    replace p5 := BoxN.kept p5 hg6 (fun e => by have := hvb _ e.symm; omega)
    have hK6 : w6.heap[D]? = some (.deferred (some [])) := (hg6.block D (by omega) (fun e => hDv e.symm)).trans hK5
    have hB6 : Below w.heap.size w w6 := (hBw.grown hg5 hBw.size (fun k e => by have := hvb k e; omega)).grown hg6 (by have := hBw.size; omega) (fun k e => by have := hvb k e; omega)
    have c4 : w6.cell? ⟨w.heap.size, 0, none⟩ = some (.slice none 0 0) := p4.cell 0
    have c5 : w6.cell? ⟨w.heap.size + 1, 0, none⟩ = some (.int .i64 0) := p5.cell 0
    have f4 := p4.frozen 0
    have f5 := p5.frozen 0
    have k4 := p4.lt
    have k5 := p5.lt
    have hKs : ((w6.setCell ⟨w.heap.size, 0, none⟩ (.slice A6 (brkL na).length cc6)).setCell ⟨w.heap.size + 1, 0, none⟩ (.int .i64 0)).heap[D]? = some (.deferred (some [])) :=
      (Below.heap_setCell _ _ _ D (by simp; omega)).trans ((Below.heap_setCell _ _ _ D (by simp; omega)).trans hK6)
    obtain ⟨r4, r5⟩ := res2 (.slice A6 (brkL na).length cc6) (.int .i64 0) p4 p5 (by omega)
    have hr7 : SlP (((w6.setCell ⟨w.heap.size, 0, none⟩ (.slice A6 (brkL na).length cc6)).setCell ⟨w.heap.size + 1, 0, none⟩ (.int .i64 0)).putObj D (.deferred none)) A6 (brkL na) := fun h => by
      obtain ⟨g, e1, e2, e3, e4⟩ := hr6 h
      have hbg := hvb g e2
      have hgD : g ≠ D := fun e => hDv (by rw [e2, e])
      have hsame : (((w6.setCell ⟨w.heap.size, 0, none⟩ (.slice A6 (brkL na).length cc6)).setCell ⟨w.heap.size + 1, 0, none⟩ (.int .i64 0)).putObj D (.deferred none)).heap[g]? = w6.heap[g]? :=
        (World.putObj_heap_other hgD).trans ((Below.heap_setCell _ _ _ g (by simp; omega)).trans (Below.heap_setCell _ _ _ g (by simp; omega)))
      refine ⟨g, e1, by simpa [World.setCell] using e3, fun j x hx => ?_⟩
      obtain ⟨u0, u1⟩ := e4 j x hx
      exact ⟨(cell_same hsame _).trans u0, (cell_same hsame _).trans u1⟩
    have s4 := Lib.hid ((cell_same (World.putObj_heap_other (w := (w6.setCell ⟨w.heap.size, 0, none⟩ (.slice A6 (brkL na).length cc6)).setCell ⟨w.heap.size + 1, 0, none⟩ (.int .i64 0)) (o := .deferred none) (show w.heap.size ≠ D by omega)) 0).trans (r4.cell 0))
    have s5 := Lib.hid ((cell_same (World.putObj_heap_other (w := (w6.setCell ⟨w.heap.size, 0, none⟩ (.slice A6 (brkL na).length cc6)).setCell ⟨w.heap.size + 1, 0, none⟩ (.int .i64 0)) (o := .deferred none) (show w.heap.size + 1 ≠ D by omega)) 0).trans (r5.cell 0))
    have HKs := Lib.hid hKs
    have Hr7 := Lib.hid hr7
    clear hKs hr7 r4 r5 hr6 hC1 hc5 hg5 hg6
    gi_wp2
    refine ⟨by simp, .inl ⟨_, _, rfl, run_takeDeferred HKs.out, ?_⟩⟩
    refine ⟨.tuple #[.slice A6 (brkL na).length cc6, .int .i64 0], by simp [results, Tryz.f23, go_sem, s4.out, s5.out], fun h => absurd Hok.out h, fun _ => ⟨_, _, rfl, Hr7.out⟩, ?_⟩
    exact ((hB6.setCell (p := ⟨w.heap.size, 0, none⟩) (Nat.le_refl _) _).setCell (p := ⟨w.heap.size + 1, 0, none⟩) (by simp) _).trans (belowK_b (w := w) (Nat.le_refl _) _ D _ _ (by omega) HKs.out rfl rfl)
  case stop =>
    rintro D c pre W hD hpre ⟨⟨⟨rfl, p, hp, hnok⟩, q4, q5⟩, hB⟩ hK
    have hpm : p ∈ twosL na := hpre.subset (List.mem_of_getLast? hp)
    have hno : ¬ ∀ p ∈ twosL na, okm p := fun h => hnok (h p hpm)
    have hel : errL pre = 3 := by unfold errL; rw [hp]; exact errM_bef (hbef.out p hpm)
    rw [hel] at q5
    have r4 : (W.putObj D (.deferred none)).cell? ⟨w.heap.size, 0, none⟩ = some (.slice none 0 0) := (cell_same (World.putObj_heap_other (by omega)) 0).trans (q4.cell 0)
    have r5 : (W.putObj D (.deferred none)).cell? ⟨w.heap.size + 1, 0, none⟩ = some (.int .i64 3) := (cell_same (World.putObj_heap_other (by omega)) 0).trans (q5.cell 0)
    clear hel
    gi_wp2
    refine ⟨by simp, .inl ⟨_, _, rfl, run_takeDeferred hK, ?_⟩⟩
    refine ⟨.tuple #[.slice none 0 0, .int .i64 3], by simp [results, Tryz.f23, go_sem, r4, r5], fun _ => rfl, fun h => absurd h hno, ?_⟩
    exact hB.trans (belowK_b (w := w) (Nat.le_refl _) W D _ _ (by omega) hK rfl rfl)
end Go.Proofs.YtbncfknjgldcbaaGreat
/- What the reference's normal form and its list of points are, as lists. -/
namespace Go.Proofs.YtbncfknjgldcbaaGreat.Ref
open Go.RowKit Go.Joins Go.Shelf Go.Sort Num

/-! The breakpoints. -/
theorem comp_fold : ∀ (l acc : List Pt), acc.Pairwise (fun a b => a.q < b.q) → (∀ a ∈ acc, ∀ b ∈ l, a.q ≤ b.q) → l.Pairwise (fun a b => a.q ≤ b.q) →
    (l.foldl stepP acc).Pairwise (fun a b => a.q < b.q) ∧ ∀ z, z ∈ l.foldl stepP acc ↔ z ∈ acc ∨ z ∈ l
  | [], acc, h, _, _ => ⟨h, fun z => by simp⟩
  | x :: l, acc, h1, h2, h3 => by
    rw [List.foldl_cons]
    rw [List.pairwise_cons] at h3
    by_cases hl : acc.getLast? = some x
    · have e : stepP acc x = acc := if_pos hl
      rw [e]
      obtain ⟨a, b⟩ := comp_fold l acc h1 (fun a ha b hb => h2 a ha b (List.mem_cons_of_mem _ hb)) h3.2
      refine ⟨a, fun z => ?_⟩
      rw [b, List.mem_cons]
      constructor
      · rintro (h | h)
        · exact .inl h
        · exact .inr (.inr h)
      · rintro (h | h | h)
        · exact .inl h
        · subst h; exact .inl (List.mem_of_getLast? hl)
        · exact .inr h
    · have e : stepP acc x = acc ++ [x] := if_neg hl
      rw [e]
      have hlt : ∀ a ∈ acc, a.q < x.q := fun a ha => by
        have hle := h2 a ha x (by simp)
        rcases Rat.le_iff_lt_or_eq.1 hle with h | h
        · exact h
        · exfalso
          rcases List.eq_nil_or_concat acc with rfl | ⟨init, z, rfl⟩
          · cases ha
          · rw [List.concat_eq_append] at *
            have hzx := h2 z (by simp) x (by simp)
            have hz : z ≠ x := fun e => hl (by rw [List.getLast?_concat, e])
            rcases List.mem_append.1 ha with ha | ha
            · have := (List.pairwise_append.1 h1).2.2 a ha z (by simp)
              grind
            · simp only [List.mem_singleton] at ha
              subst ha
              exact hz (Pt.ext' h)
      obtain ⟨a, b⟩ := comp_fold l (acc ++ [x]) (by
        rw [List.pairwise_append]
        exact ⟨h1, List.pairwise_singleton _ _, fun a ha b hb => by simp only [List.mem_singleton] at hb; subst hb; exact hlt a ha⟩)
        (fun a ha b hb => by
          rcases List.mem_append.1 ha with ha | ha
          · exact h2 a ha b (List.mem_cons_of_mem _ hb)
          · simp only [List.mem_singleton] at ha; subst ha; exact h3.1 b hb) h3.2
      refine ⟨a, fun z => ?_⟩
      rw [b]
      simp [or_assoc]
theorem sortP_pw (c : List Pt) : (sortP c).Pairwise (fun a b => a.q ≤ b.q) := by
  have h := List.pairwise_mergeSort (le := fun x y => !(ltOf Pt.ord) y x) (fun x y z h1 h2 => by
    simp only [Bool.not_eq_true', ptlt_not] at h1 h2 ⊢
    grind) (fun x y => by
    simp only [Bool.or_eq_true, Bool.not_eq_true', ptlt_not]
    grind) c
  exact h.imp fun {x y} k => by simp only [Bool.not_eq_true', ptlt_not] at k; exact Rat.not_lt.1 k
theorem brk_spec (N : List Buck) : (brkL N).Pairwise (fun a b => a.q < b.q) ∧ ∀ z, z ∈ brkL N ↔ z ∈ (twosL N).map meetP := by
  obtain ⟨h1, h2⟩ := comp_fold (sortP ((twosL N).map meetP)) [] .nil (fun _ h => by cases h) (sortP_pw _)
  refine ⟨h1, fun z => ?_⟩
  show z ∈ (sortP ((twosL N).map meetP)).foldl stepP [] ↔ _
  rw [h2]
  simp [sortP, List.mem_mergeSort]

/-- Bucket i is dominated, or occurs before. -/
def Dom (c : List Buck) (i : Nat) : Prop := ∃ x, c[i]? = some x ∧ ((∃ k : Nat, k < i ∧ c[k]? = some x) ∨ ∃ (k : Nat) (y : Buck), c[k]? = some y ∧ y ≠ x ∧ y.le x)
/-- The list that Norm has after i buckets. -/
structure NrmI (c : List Buck) (i : Nat) (out : List Buck) : Prop where
  o : out.Pairwise Buck.bef
  s : ∀ x ∈ out, ∃ j : Nat, j < i ∧ c[j]? = some x ∧ ¬ Dom c j
  a : ∀ (j : Nat) (x : Buck), j < i → c[j]? = some x → ¬ Dom c j → x ∈ out
theorem NrmI.zero (c : List Buck) : NrmI c 0 [] := ⟨.nil, fun _ h => absurd h List.not_mem_nil, fun _ _ h => absurd h (Nat.not_lt_zero _)⟩
theorem NrmI.skip {c : List Buck} {i : Nat} {out : List Buck} (h : NrmI c i out) (hd : Dom c i) : NrmI c (i + 1) out :=
  ⟨h.o, fun x hx => by obtain ⟨j, h1, h2⟩ := h.s x hx; exact ⟨j, by omega, h2⟩, fun j x h1 h2 h3 => by
    by_cases e : j = i
    · subst e; exact absurd hd h3
    · exact h.a j x (by omega) h2 h3⟩
theorem NrmI.cmp {c : List Buck} {i : Nat} {out : List Buck} (h : NrmI c i out) {x : Buck} (hx : c[i]? = some x) (hd : ¬ Dom c i) {y : Buck} (hy : y ∈ out) : (y.b ≤ x.b → y.bef x) ∧ (x.b < y.b → x.bef y) := by
  obtain ⟨j, hj, hjy, hjd⟩ := h.s y hy
  have hne : y ≠ x := fun e => hd ⟨x, hx, .inl ⟨j, hj, e ▸ hjy⟩⟩
  have h1 : ¬ y.le x := fun e => hd ⟨x, hx, .inr ⟨j, y, hjy, hne, e⟩⟩
  have h2 : ¬ x.le y := fun e => hjd ⟨y, hjy, .inr ⟨i, x, hx, hne.symm, e⟩⟩
  constructor
  · intro hb
    have hr : x.r < y.r := Rat.not_le.1 fun k => h1 ⟨hb, k⟩
    refine ⟨?_, hr⟩
    rcases Rat.le_iff_lt_or_eq.1 hb with k | k
    · exact k
    · exact absurd ⟨k ▸ Rat.le_refl, Rat.le_of_lt hr⟩ h2
  · intro hb
    refine ⟨hb, Rat.not_le.1 fun k => h2 ⟨Rat.le_of_lt hb, k⟩⟩
theorem pw_take_drop {L : List Buck} {x : Buck} (at' : Nat) (h : L.Pairwise Buck.bef) (h1 : ∀ y ∈ L.take at', y.bef x) (h2 : ∀ y ∈ L.drop at', x.bef y) : (L.take at' ++ [x] ++ L.drop at').Pairwise Buck.bef := by
  rw [List.pairwise_append]
  refine ⟨?_, h.sublist (List.drop_sublist _ _), ?_⟩
  · rw [List.pairwise_append]
    refine ⟨h.sublist (List.take_sublist _ _), List.pairwise_singleton _ _, fun y hy z hz => ?_⟩
    simp only [List.mem_singleton] at hz
    subst hz
    exact h1 y hy
  · intro y hy z hz
    rcases List.mem_append.1 hy with hy | hy
    · have := h1 y hy
      exact Buck.bef_trans this (h2 z hz)
    · simp only [List.mem_singleton] at hy
      subst hy
      exact h2 z hz
theorem mem_mid {α : Type} {L : List α} {x y : α} (n : Nat) : y ∈ L.take n ++ [x] ++ L.drop n ↔ y = x ∨ y ∈ L := by
  have : y ∈ L ↔ y ∈ L.take n ++ L.drop n := by rw [List.take_append_drop]
  rw [this]
  simp only [List.mem_append, List.mem_singleton]
  constructor
  · rintro ((h | h) | h)
    · exact .inr (.inl h)
    · exact .inl h
    · exact .inr (.inr h)
  · rintro (h | h | h)
    · exact .inl (.inr h)
    · exact .inl (.inl h)
    · exact .inr h
theorem NrmI.put {c : List Buck} {i : Nat} {out : List Buck} (h : NrmI c i out) {x : Buck} (hx : c[i]? = some x) (hd : ¬ Dom c i) (n : Nat) (h1 : ∀ y ∈ out.take n, y.b ≤ x.b) (h2 : ∀ y ∈ out.drop n, x.b < y.b) : NrmI c (i + 1) (out.take n ++ [x] ++ out.drop n) := by
  refine ⟨pw_take_drop n h.o (fun y hy => (h.cmp hx hd (List.mem_of_mem_take hy)).1 (h1 y hy)) (fun y hy => (h.cmp hx hd (List.mem_of_mem_drop hy)).2 (h2 y hy)), fun y hy => ?_, fun j y h3 h4 h5 => ?_⟩
  · rcases (mem_mid n).1 hy with e | hy
    · exact ⟨i, by omega, by rw [e]; exact hx, hd⟩
    · obtain ⟨j, k1, k2⟩ := h.s y hy
      exact ⟨j, by omega, k2⟩
  · rw [mem_mid]
    by_cases e : j = i
    · subst e
      rw [h4] at hx
      exact .inl (Option.some.inj hx)
    · exact .inr (h.a j y (by omega) h4 h5)
/-- In an ordered list the first n are at most x if the last of them is. -/
theorem take_le {out : List Buck} (h : out.Pairwise Buck.bef) {n : Nat} {y x : Buck} (hy : out[n]? = some y) (hle : y.b ≤ x.b) : ∀ z ∈ out.take (n + 1), z.b ≤ x.b := by
  intro z hz
  rw [take_succ' hy, List.mem_append] at hz
  rcases hz with hz | hz
  · have hs : out = out.take n ++ out.drop n := (List.take_append_drop _ _).symm
    have hyd : y ∈ out.drop n := by
      rw [List.mem_iff_getElem?]
      exact ⟨0, by rw [List.getElem?_drop]; simpa using hy⟩
    rw [hs, List.pairwise_append] at h
    exact Rat.le_trans (Rat.le_of_lt (h.2.2 z hz y hyd).1) hle
  · simp only [List.mem_singleton] at hz
    subst hz
    exact hle
theorem first_at {c : List Buck} {x : Buck} (h : x ∈ c) : ∃ k : Nat, c[k]? = some x ∧ ∀ j, j < k → c[j]? ≠ some x := by
  induction c with
  | nil => cases h
  | cons y c ih =>
    by_cases e : y = x
    · exact ⟨0, by rw [e]; rfl, fun j hj => absurd hj (Nat.not_lt_zero _)⟩
    · rcases List.mem_cons.1 h with k | k
      · exact absurd k.symm e
      · obtain ⟨k, h1, h2⟩ := ih k
        refine ⟨k + 1, by simpa using h1, fun j hj => ?_⟩
        cases j with
        | zero => simpa using e
        | succ j => simpa using h2 j (by omega)
/-- What is left is the normal form. -/
theorem NrmI.done {c : List Buck} {out : List Buck} (h : NrmI c c.length out) : out = normL c := by
  refine (nf_uniq ⟨h.o, fun x hx => ?_, fun x hx => ?_⟩).symm
  · obtain ⟨j, _, hj, _⟩ := h.s x hx
    exact List.mem_of_getElem? hj
  · have hN := normL_nf c
    obtain ⟨y, hy, hyx⟩ := hN.c x hx
    obtain ⟨k, hk, hkf⟩ := first_at (hN.s y hy)
    refine ⟨y, h.a k y (List.getElem?_eq_some_iff.1 hk).1 hk ?_, hyx⟩
    rintro ⟨y', hy', hd⟩
    rw [hk] at hy'
    cases hy'
    rcases hd with ⟨j, hj, hjy⟩ | ⟨j, z, hjz, hne, hle⟩
    · exact hkf j hj hjy
    · obtain ⟨m, hm, hmz⟩ := hN.c z (List.mem_of_getElem? hjz)
      have e := pw_le hN.o hm hy (Buck.le_trans hmz hle)
      subst e
      exact hne (le_anti hle hmz)

/-- A list of points that increases. -/
abbrev Inc (l : List Pt) : Prop := l.Pairwise fun x y => x.q < y.q
theorem inc_ext : ∀ {L M : List Pt}, Inc L → Inc M → (∀ x, x ∈ L ↔ x ∈ M) → L = M := by
  intro L
  induction L with
  | nil =>
    intro M _ _ h
    cases M with
    | nil => rfl
    | cons y M => exact absurd ((h y).2 (by simp)) List.not_mem_nil
  | cons x L ih =>
    intro M hL hM h
    cases M with
    | nil => exact absurd ((h x).1 (by simp)) List.not_mem_nil
    | cons y M =>
      simp only [Inc, List.pairwise_cons] at hL hM
      have hxy : x = y := by
        rcases List.mem_cons.1 ((h x).1 (by simp)) with e | hx
        · exact e
        · rcases List.mem_cons.1 ((h y).2 (by simp)) with e | hy
          · exact e.symm
          · exact absurd (lt_tr' (hM.1 x hx) (hL.1 y hy)) Rat.lt_irrefl
      subst hxy
      rw [ih hL.2 hM.2 fun z => ?_]
      constructor
      · intro hz
        rcases List.mem_cons.1 ((h z).1 (List.mem_cons_of_mem _ hz)) with e | hz'
        · subst e; exact absurd (hL.1 _ hz) Rat.lt_irrefl
        · exact hz'
      · intro hz
        rcases List.mem_cons.1 ((h z).2 (List.mem_cons_of_mem _ hz)) with e | hz'
        · subst e; exact absurd (hM.1 _ hz) Rat.lt_irrefl
        · exact hz'
theorem inc_take_le {L : List Pt} (h : Inc L) {n : Nat} {y x : Pt} (hy : L[n]? = some y) (hle : y.q ≤ x.q) : ∀ z ∈ L.take (n + 1), z.q ≤ x.q := by
  intro z hz
  rw [take_succ' hy, List.mem_append] at hz
  rcases hz with hz | hz
  · have hs : L = L.take n ++ L.drop n := (List.take_append_drop _ _).symm
    have hyd : y ∈ L.drop n := by
      rw [List.mem_iff_getElem?]
      exact ⟨0, by rw [List.getElem?_drop]; simpa using hy⟩
    rw [hs] at h
    simp only [Inc, List.pairwise_append] at h
    exact Rat.le_trans (Rat.le_of_lt (h.2.2 z hz y hyd)) hle
  · simp only [List.mem_singleton] at hz
    subst hz
    exact hle
theorem inc_put {L : List Pt} {x : Pt} (n : Nat) (h : Inc L) (h1 : ∀ y ∈ L.take n, y.q < x.q) (h2 : ∀ y ∈ L.drop n, x.q < y.q) : Inc (L.take n ++ [x] ++ L.drop n) := by
  unfold Inc
  rw [List.pairwise_append]
  refine ⟨?_, h.sublist (List.drop_sublist _ _), ?_⟩
  · rw [List.pairwise_append]
    refine ⟨h.sublist (List.take_sublist _ _), List.pairwise_singleton _ _, fun y hy z hz => ?_⟩
    simp only [List.mem_singleton] at hz
    subst hz
    exact h1 y hy
  · intro y hy z hz
    rcases List.mem_append.1 hy with hy | hy
    · exact lt_tr' (h1 y hy) (h2 z hz)
    · simp only [List.mem_singleton] at hy
      subst hy
      exact h2 z hz
/-- One more number in an increasing list. -/
def insP (L : List Pt) (x : Pt) (M : List Pt) : Prop := Inc M ∧ ∀ z, z ∈ M ↔ z = x ∨ z ∈ L
theorem insP_same {L : List Pt} {x : Pt} (h : Inc L) (hx : x ∈ L) : insP L x L := ⟨h, fun z => ⟨.inr, fun k => by rcases k with k | k; subst k; exact hx; exact k⟩⟩
theorem insP_put {L : List Pt} {x : Pt} (n : Nat) (h : Inc L) (h1 : ∀ y ∈ L.take n, y.q < x.q) (h2 : ∀ y ∈ L.drop n, x.q < y.q) : insP L x (L.take n ++ [x] ++ L.drop n) := ⟨inc_put n h h1 h2, fun _ => mem_mid n⟩
end Go.Proofs.YtbncfknjgldcbaaGreat.Ref
/- What stands in memory while a law runs: facts that no callee touches. The law package's num, bucket and nacelleref02.Same. -/
namespace Go.Proofs.YtbncfknjgldcbaaGreat
open Go.RowKit Go.Joins Go.Shelf Go.Sort Num

/-- A fact on the world that stays while memory only grows. -/
def Cl (P : World → Prop) : Prop := ∀ W W' : World, P W → Below W.heap.size W W' → P W'
/-- The world has grown from w, and the facts hold. -/
structure Kept (w : World) (l : List (World → Prop)) (W : World) : Prop where
  b : Below w.heap.size w W
  h : ∀ P ∈ l, Cl P ∧ P W
theorem Kept.start (w : World) : Kept w [] w := ⟨Below.refl _ _, fun _ h => by cases h⟩
theorem Kept.keep {w W W' : World} {l : List (World → Prop)} (k : Kept w l W) (hb : Below W.heap.size W W') : Kept w l W' :=
  ⟨k.b.trans (hb.mono k.b.size), fun P hP => ⟨(k.h P hP).1, (k.h P hP).1 W W' (k.h P hP).2 hb⟩⟩
theorem Kept.alloc {w W : World} {l : List (World → Prop)} (k : Kept w l W) (o : Obj) : Kept w l (W.alloc o) := k.keep ((Below.refl _ _).alloc (Nat.le_refl _) _)
theorem Kept.drew {w W : World} {l : List (World → Prop)} (k : Kept w l W) : Kept w l W.drew := k.keep (Below.refl _ _).drew
theorem Kept.drewN {w W : World} {l : List (World → Prop)} (k : Kept w l W) (n : Nat) : Kept w l (W.drewN n) := k.keep (below_drewN (Below.refl _ _) n)
theorem Kept.add {w W : World} {l : List (World → Prop)} (k : Kept w l W) {P : World → Prop} (hc : Cl P) (h : P W) : Kept w (P :: l) W :=
  ⟨k.b, fun Q hQ => by
    rcases List.mem_cons.1 hQ with rfl | hQ
    · exact ⟨hc, h⟩
    · exact k.h Q hQ⟩
theorem Kept.get {w W : World} {l : List (World → Prop)} (k : Kept w l W) (i : Nat) {P : World → Prop} (h : l[i]? = some P) : P W := (k.h P (List.mem_of_getElem? h)).2
/-- Block b holds the numbers n and d. -/
def isR (b : Nat) (n d : Int) : World → Prop := fun W => Has W b n d
theorem cl_isR (b : Nat) (n d : Int) : Cl (isR b n d) := fun _ _ h hb => Has.keep h hb
/-- The slice holds the buckets c. -/
def isC (A : Option Addr) (cap : Nat) (c : List Buck) : World → Prop := fun W => Sl W.heap.size W (.slice A c.length cap) c
theorem cl_isC (A : Option Addr) (cap : Nat) (c : List Buck) : Cl (isC A cap c) := fun _ _ h hb => Sl.more (Sl.below h hb (Nat.le_refl _)) hb.size
/-- The slice holds the points c. -/
def isP (A : Option Addr) (c : List Pt) : World → Prop := fun W => SlP W A c
theorem cl_isP (A : Option Addr) (c : List Pt) : Cl (isP A c) := fun _ W' h hb hc => by
  obtain ⟨g, e, hl, hr⟩ := h hc
  exact ⟨g, e, Nat.lt_of_lt_of_le hl hb.size, hr.below hb hl⟩
theorem isC.cells {A : Option Addr} {cap : Nat} {c : List Buck} {W : World} (h : isC A cap c W) (hc : c ≠ []) : ∃ b off, A = some ⟨b, off, none⟩ ∧ b < W.heap.size ∧ Row W b off c := by
  obtain ⟨A', cap', e, h'⟩ := h
  simp only [Value.slice.injEq, true_and] at e
  obtain ⟨rfl, rfl⟩ := e
  obtain ⟨b, off, e1, e2, e3⟩ := h' hc
  exact ⟨b, off, e1, e2, e3⟩
theorem isC.of_own {base : Nat} {A : Option Addr} {cap : Nat} {W : World} {c : List Buck} (h : Own4 base W (.slice A c.length cap) c) : isC A cap c W := h.sl
/-- A slice that was just built of buckets. -/
theorem isC.lit (W : World) (c : List Buck) (cap : Nat) (cs : Array Value) (h : cs.toList = cellsOf c) : isC (some ⟨W.heap.size, 0, none⟩) cap c (W.alloc (.cells cs 80)) := by
  refine ⟨_, _, rfl, fun _ => ⟨W.heap.size, 0, rfl, by simp, row_of_cells fun j u hu => ?_⟩⟩
  rw [Nat.zero_add, BoxN.cell (BoxN.new W 80 cs) j, ← hu, ← h, Array.getElem?_toList]

theorem num_any (n d : Int) (w : World) : Calls Tryz.prog 46 #[.int .i64 n, .int .i64 d] w fun e w' => e = .returned (.agg #[.int .i64 n, .int .i64 d]) ∧ Lays w w' := by
  go_enter Tryz.func46, Tryz.ntmps46
  go_wp2
  refine bodyPost_ret (v := .agg #[.int .i64 n, .int .i64 d]) (by simp [results, Tryz.results46, go_sem]) rfl ⟨rfl, (Lays.refl _).alloc _⟩
theorem bucket_any (a b c d : Int) (w : World) : Calls Tryz.prog 47 #[.agg #[.int .i64 a, .int .i64 b], .agg #[.int .i64 c, .int .i64 d]] w fun e w' => e = .returned (.agg #[.int .i64 a, .int .i64 b, .int .i64 c, .int .i64 d]) ∧ Lays w w' := by
  go_enter Tryz.func47, Tryz.ntmps47
  go_wp2
  refine bodyPost_ret (v := .agg #[.int .i64 a, .int .i64 b, .int .i64 c, .int .i64 d]) (by simp [results, Tryz.results47, go_sem]) rfl ⟨rfl, (((Lays.refl _).alloc _).alloc _).alloc _⟩

theorem neqB_run {x y : Buck} (W : World) : Sem.run Tryz.prog (binOp .neq 80 (.agg #[.int .i64 x.b.num, .int .i64 x.b.den, .int .i64 x.r.num, .int .i64 x.r.den]) (.agg #[.int .i64 y.b.num, .int .i64 y.b.den, .int .i64 y.r.num, .int .i64 y.r.den])) W = .ok (.bool (!decide (x = y))) W := by
  by_cases h : x = y
  · subst h
    simp only [decide_true, Bool.not_true]
    generalize x.b.num = a1
    generalize (x.b.den : Int) = a2
    generalize x.r.num = a3
    generalize (x.r.den : Int) = a4
    go_simp
  · rw [neq_b h W, decide_eq_false h]; rfl

set_option maxHeartbeats 2000000 in
/-- Two lists of buckets are compared one by one. -/
theorem same_any (A B : Option Addr) (ca cb : Nat) (a b : List Buck) (hla : a.length ≤ 1048576) (hlb : b.length ≤ 1048576) (w : World) (hA : isC A ca a w) (hB' : isC B cb b w) :
    Calls Tryz.prog 48 #[.slice A a.length ca, .slice B b.length cb] w fun e w' => e = .returned (.bool (decide (a = b))) ∧ Below w.heap.size w w' := by
  by_cases hl : a.length = b.length
  · go_enter Tryz.func48, Tryz.ntmps48
    go_wp2_with fail
    go_loopw [5] (fun i wr => ∃ k : Nat, k ≤ a.length ∧ i = .int .i64 k ∧ a.take k = b.take k ∧ Below w.heap.size w wr)
      (fun i _ => a.length - (intOf i).toNat)
    case atStart => exact ⟨0, Nat.zero_le _, rfl, rfl, Below.refl _ _⟩
    case round =>
      obtain ⟨k, hk, rfl, htk, hB⟩ := hrel
      by_cases hlt : k < a.length
      · have hx : a[k]? = some a[k] := List.getElem?_eq_getElem hlt
        have hy : b[k]? = some (b[k]'(by omega)) := List.getElem?_eq_getElem (by omega)
        obtain ⟨x, hxe⟩ : ∃ x, a[k] = x := ⟨_, rfl⟩
        obtain ⟨y, hye⟩ : ∃ y, b[k]'(by omega) = y := ⟨_, rfl⟩
        rw [hxe] at hx
        rw [hye] at hy
        obtain ⟨ga, oa, rfl, hla2, hra⟩ := hA.cells (by intro h; subst h; simp at hlt)
        obtain ⟨gb, ob, rfl, hlb2, hrb⟩ := hB'.cells (by intro h; rw [h] at hl; rw [hl] at hlt; simp at hlt)
        obtain ⟨x0, x1, x2, x3⟩ := hra.below hB hla2 k x hx
        obtain ⟨y0, y1, y2, y3⟩ := hrb.below hB hlb2 k y hy
        have hneq := fun W => neqB_run (x := x) (y := y) W
        have HX := Lib.hid hx
        have HY := Lib.hid hy
        have Hlen := Lib.hid hl
        have hlt2 : k < b.length := by omega
        clear hx hy hxe hye hl
        by_cases hxy : x = y
        · rw [decide_eq_true hxy] at hneq
          simp only [Bool.not_true] at hneq
          have Htk : Hid (a.take (k + 1) = b.take (k + 1)) := by unfold Hid; rw [take_succ' HX.out, take_succ' HY.out, htk, hxy]
          clear htk
          go_wp2_with fail
          go_quiet (fail)
          rename_i nq
          replace hB := below_drewN hB nq
          clear x0 x1 x2 x3 y0 y1 y2 y3 hneq
          generalize wr.drewN nq = wq at hB ⊢
          go_wp2
          go_roundw
          case rel => exact ⟨k + 1, by omega, by go_num, Htk.out, hB⟩
          case measure => simp [intOf]; omega
        · rw [decide_eq_false hxy] at hneq
          simp only [Bool.not_false] at hneq
          have hne : Hid (decide (a = b) = false) := decide_eq_false fun h => by
            subst h
            have := HX.out.symm.trans HY.out
            exact hxy (Option.some.inj this)
          clear htk
          go_wp2_with fail
          go_quiet (fail)
          rename_i nq
          replace hB := below_drewN hB nq
          clear x0 x1 x2 x3 y0 y1 y2 y3 hneq
          generalize wr.drewN nq = wq at hB ⊢
          go_wp2
          go_ret
          exact ⟨by rw [hne.out]; rfl, hB⟩
      · obtain rfl : k = a.length := by omega
        have heq : Hid (decide (a = b) = true) := decide_eq_true (by rw [List.take_length] at htk; rw [htk, hl, List.take_length])
        have Hl := Lib.hid hl
        clear htk hl
        go_wp2
        go_ret
        exact ⟨by rw [heq.out]; rfl, hB⟩
  · have hne : decide (a = b) = false := decide_eq_false fun h => hl (by rw [h])
    rw [hne]
    have hn1 : ((a.length : Int) != b.length) = true := by
      simp only [bne_iff_ne, ne_eq]; omega
    have hn2 : ((a.length : Int) == b.length) = false := by simp; omega
    clear hne
    go_enter Tryz.func48, Tryz.ntmps48
    go_wp2
    go_ret
    exact ⟨rfl, Below.refl _ _⟩
end Go.Proofs.YtbncfknjgldcbaaGreat
/- The functions of package curve at valid curves, in the words of Kept. -/
namespace Go.Proofs.YtbncfknjgldcbaaGreat
open Go.RowKit Go.Joins Go.Shelf Go.Sort Num

section
variable {A B : Option Addr} {ca cb : Nat} {a b n : List Buck} {w : World}
theorem own_is {base : Nat} {W : World} {v : Value} {c : List Buck} (h : Own4 base W v c) : ∃ A cap, v = .slice A c.length cap ∧ isC A cap c W := by
  obtain ⟨A, cap, rfl⟩ := h.form
  exact ⟨A, cap, rfl, isC.of_own h⟩
theorem norm_yes (k : Nat) (ha : isC A ca a w) (h1 : 1 ≤ a.length) (h2 : a.length ≤ 32) (hn : normL a = n) (hk : n.length = k) (l : Nat) (hl : a.length = l) :
    Calls Tryz.prog 15 #[.slice A l ca] w fun e w' => ∃ A' c', e = .returned (.tuple #[.slice A' k c', .int .i64 0]) ∧ isC A' c' n w' ∧ Below w.heap.size w w' := by
  subst hn hk hl
  exact (norm_ok A ca a h1 h2 w ha).mono fun e w' ⟨v, he, ho, hb⟩ => by
    obtain ⟨A', c', rfl, hi⟩ := own_is ho
    exact ⟨A', c', he, hi, hb⟩
theorem shift_yes (t : Rat) (k : Nat) (ha : isC A ca a w) (h1 : 1 ≤ a.length) (h2 : a.length ≤ 32) (ht : Fit t) (ht0 : 0 ≤ t) (hok : ∀ x ∈ a, okv x t) (hn : normL (a.map (shiftB t)) = n) (hk : n.length = k) (l : Nat) (hl : a.length = l) (tn td : Int) (htn : t.num = tn) (htd : (t.den : Int) = td) :
    Calls Tryz.prog 21 #[.slice A l ca, .agg #[.int .i64 tn, .int .i64 td]] w fun e w' => ∃ A' c', e = .returned (.tuple #[.slice A' k c', .int .i64 0]) ∧ isC A' c' n w' ∧ Below w.heap.size w w' := by
  subst hn hk hl htn htd
  exact (shift_ok A ca a t h1 h2 ht ht0 w ha).mono fun e w' ⟨h, _, hb⟩ => by
    obtain ⟨v, he, ho⟩ := h hok
    obtain ⟨A', c', rfl, hi⟩ := own_is ho
    exact ⟨A', c', he, hi, hb⟩
theorem sum_yes (k : Nat) (ha : isC A ca a w) (h1 : 1 ≤ a.length) (h2 : a.length ≤ 32) (hb : isC B cb b w) (h3 : 1 ≤ b.length) (h4 : b.length ≤ 32) {na nb : List Buck} (hna : normL a = na) (hnb : normL b = nb) (hm : na.length * nb.length ≤ 32) (hok : ∀ p ∈ pairsL na nb, oka p)
    (hn : normL ((pairsL na nb).map addB) = n) (hk : n.length = k) (l m : Nat) (hl : a.length = l) (hm' : b.length = m) :
    Calls Tryz.prog 17 #[.slice A l ca, .slice B m cb] w fun e w' => ∃ A' c', e = .returned (.tuple #[.slice A' k c', .int .i64 0]) ∧ isC A' c' n w' ∧ Below w.heap.size w w' := by
  subst hna hnb hn hk hl hm'
  exact (callsIn_wide.1 (sum_in A B ca cb a b h1 h2 h3 h4 w ha hb)).mono fun e w' ⟨_, _, h, hb⟩ => by
    obtain ⟨v, he, ho⟩ := h hm hok
    obtain ⟨A', c', rfl, hi⟩ := own_is ho
    exact ⟨A', c', he, hi, hb⟩
theorem min_yes (k : Nat) (ha : isC A ca a w) (h1 : 1 ≤ a.length) (h2 : a.length ≤ 32) (hb : isC B cb b w) (h3 : 1 ≤ b.length) (h4 : b.length ≤ 32) (hn : normL (a ++ b) = n) (hm : n.length ≤ 32) (hk : n.length = k) (l m : Nat) (hl : a.length = l) (hm' : b.length = m) :
    Calls Tryz.prog 19 #[.slice A l ca, .slice B m cb] w fun e w' => ∃ A' c', e = .returned (.tuple #[.slice A' k c', .int .i64 0]) ∧ isC A' c' n w' ∧ Below w.heap.size w w' := by
  subst hn hk hl hm'
  exact (min_ok A B ca cb a b h1 h2 h3 h4 w ha hb).mono fun e w' ⟨h, _, hb⟩ => by
    obtain ⟨v, he, ho⟩ := h hm
    obtain ⟨A', c', rfl, hi⟩ := own_is ho
    exact ⟨A', c', he, hi, hb⟩
theorem breaks_yes (k : Nat) (ha : isC A ca a w) (h1 : 1 ≤ a.length) (h2 : a.length ≤ 32) (hn : normL a = n) (hok : ∀ p ∈ twosL n, okm p) {p : List Pt} (hp : brkL n = p) (hk : p.length = k) (l : Nat) (hl : a.length = l) :
    Calls Tryz.prog 23 #[.slice A l ca] w fun e w' => ∃ A' c', e = .returned (.tuple #[.slice A' k c', .int .i64 0]) ∧ isP A' p w' ∧ Below w.heap.size w w' := by
  subst hn hp hk hl
  exact (callsIn_wide.1 (breaks_in A ca a h1 h2 w ha)).mono fun e w' ⟨_, h, hb⟩ => by
    obtain ⟨A', c', he, ho⟩ := h hok
    exact ⟨A', c', he, ho, hb⟩
theorem at_yes (t : Rat) (ha : isC A ca a w) (h1 : 1 ≤ a.length) (h2 : a.length ≤ 32) (ht : Fit t) (ht0 : 0 ≤ t) (hok : ∀ x ∈ a, okv x t) (l : Nat) (hl : a.length = l) (tn td vn vd : Int) (htn : t.num = tn) (htd : (t.den : Int) = td) (hvn : (minV a t).num = vn) (hvd : ((minV a t).den : Int) = vd) :
    Calls Tryz.prog 8 #[.slice A l ca, .agg #[.int .i64 tn, .int .i64 td]] w fun e w' => e = .returned (.tuple #[.agg #[.int .i64 vn, .int .i64 vd], .int .i64 0]) ∧ Below w.heap.size w w' := by
  subst hl htn htd hvn hvd
  have h := at_ok A ca a t h1 h2 ht ht0 w ha
  rw [show atV a t = ((minV a t).num, ((minV a t).den : Int), 0) from if_pos hok] at h
  exact h
theorem rate_yes (ha : isC A ca a w) (h1 : 1 ≤ a.length) (h2 : a.length ≤ 32) (l : Nat) (hl : a.length = l) (vn vd : Int) (hvn : (rateL a).num = vn) (hvd : ((rateL a).den : Int) = vd) :
    Calls Tryz.prog 10 #[.slice A l ca] w fun e w' => e = .returned (.tuple #[.agg #[.int .i64 vn, .int .i64 vd], .int .i64 0]) ∧ Below w.heap.size w w' := by
  subst hl hvn hvd
  exact rate_ok A ca a h1 h2 w ha
theorem same_yes (r : Bool) (ha : isC A ca a w) (hb : isC B cb b w) (h1 : a.length ≤ 1048576) (h2 : b.length ≤ 1048576) (hr : decide (a = b) = r) (l m : Nat) (hl : a.length = l) (hm' : b.length = m) :
    Calls Tryz.prog 48 #[.slice A l ca, .slice B m cb] w fun e w' => e = .returned (.bool r) ∧ Below w.heap.size w w' := by
  subst hl hm' hr
  exact same_any A B ca cb a b h1 h2 w ha hb
end
end Go.Proofs.YtbncfknjgldcbaaGreat
