/- curve.Breaks. -/
import Derived.Test.YtaanhddgmiggfaaGreatMeet
namespace Go.Proofs.YtaanhddgmiggfaaGreat
open Go.RowKit Go.Joins Go.Shelf Go.Sort Num
attribute [local go_sem] Oper.semAt_some

def okm (p : Buck × Buck) : Prop := (Fit (p.2.b - p.1.b) ∧ Fit (p.1.r - p.2.r)) ∧ (p.1.r - p.2.r ≠ 0 ∧ Fit ((p.2.b - p.1.b) / (p.1.r - p.2.r)))
instance (p : Buck × Buck) : Decidable (okm p) := inferInstanceAs (Decidable (_ ∧ _))
def meetQ (p : Buck × Buck) : Rat := (p.2.b - p.1.b) / (p.1.r - p.2.r)
def mkPt (q : Rat) : Pt := if h : Fit q then ⟨q, h⟩ else default
def meetP (p : Buck × Buck) : Pt := mkPt (meetQ p)
/-- The error, where there is one. -/
def errM (p : Buck × Buck) : Int := if (Fit (p.2.b - p.1.b) ∧ Fit (p.1.r - p.2.r)) ∧ p.1.r - p.2.r = 0 then 2 else 3
def errL (l : List (Buck × Buck)) : Int := match l.getLast? with | some p => errM p | none => 3
theorem errL_snoc (l : List (Buck × Buck)) (p : Buck × Buck) : errL (l ++ [p]) = errM p := by unfold errL; rw [List.getLast?_concat]
theorem meetP_q {p : Buck × Buck} (h : okm p) : (meetP p).q = meetQ p := by unfold meetP mkPt; rw [dif_pos (show Fit (meetQ p) from h.2.2)]
theorem meetW_ok {p : Buck × Buck} (h : okm p) : meetW p.1.b p.1.r p.2.b p.2.r = ((meetQ p).num, ((meetQ p).den : Int), 0) := by
  unfold meetW divQ; rw [if_pos h.1, if_neg h.2.1]; exact ofR_yes h.2.2
theorem meetW_no {p : Buck × Buck} (h : ¬ okm p) : meetW p.1.b p.1.r p.2.b p.2.r = (0, 0, errM p) := by
  unfold meetW errM
  by_cases h1 : Fit (p.2.b - p.1.b) ∧ Fit (p.1.r - p.2.r)
  · rw [if_pos h1]
    unfold divQ
    by_cases h2 : p.1.r - p.2.r = 0
    · rw [if_pos h2, if_pos ⟨h1, h2⟩]
    · rw [if_neg h2, if_neg (fun h => h2 h.2)]; exact ofR_no fun h3 => h ⟨h1, h2, h3⟩
  · rw [if_neg h1, if_neg (fun h => h1 h.1)]
theorem meet_cells {p : Buck × Buck} (h : okm p) : (meetP p).cells = [.int .i64 (meetQ p).num, .int .i64 (meetQ p).den] := by unfold Pt.cells; rw [meetP_q h]
theorem meet_ne {p : Buck × Buck} (h : p.1.bef p.2) : p.1.r - p.2.r ≠ 0 := by
  intro e
  have := h.2
  rw [show p.1.r = p.2.r by rw [Rat.sub_eq_add_neg] at e; have := congrArg (· + p.2.r) e; simpa [Rat.add_assoc, Rat.neg_add_cancel, Rat.add_zero, Rat.zero_add] using this] at this
  exact Rat.lt_irrefl this
theorem errM_bef {p : Buck × Buck} (h : p.1.bef p.2) : errM p = 3 := if_neg fun k => meet_ne h k.2
theorem errM_pos (p : Buck × Buck) : errM p = 2 ∨ errM p = 3 := by unfold errM; split <;> simp
/-- The breakpoints of a normal form. -/
def brkL (n : List Buck) : List Pt := compL (sortP ((twosL n).map meetP))
/-- The points in a slice of the call's own. -/
def SlP (W : World) (A : Option Addr) (c : List Pt) : Prop := c ≠ [] → ∃ g, A = some ⟨g, 0, none⟩ ∧ g < W.heap.size ∧ Row2 W g 0 c
def BreaksPost (n : List Buck) (w : World) (e : Ending) (w' : World) : Prop :=
  ((¬ ∀ p ∈ twosL n, okm p) → e = .returned (.tuple #[.slice none 0 0, .int .i64 3])) ∧
  ((∀ p ∈ twosL n, okm p) → ∃ A cap, e = .returned (.tuple #[.slice A (brkL n).length cap, .int .i64 0]) ∧ SlP w' A (brkL n)) ∧ Below w.heap.size w w'

set_option maxHeartbeats 1000000 in
theorem breaks_bad (A : Option Addr) (cap : Nat) (c : List Bk) (hlen : c.length ≤ 1048576) (hbd : ∀ x ∈ c, x.bd64) (w : World) (hI : SlR w.heap.size w (.slice A c.length cap) c) (hbad : valC c = false) :
    CallsIn Fence.wide 9 Tryz.prog 27 #[.slice A c.length cap] w fun e w' => e = .returned (.tuple #[.slice none 0 0, .int .i64 2]) ∧ Below w.heap.size w w' := by
  have hro : Fence.wide.round = none := rfl
  have hB0 := ((Below.refl w.heap.size w).alloc (Nat.le_refl _) (.cells #[.slice none 0 0] 44)).alloc (by simp) (.cells #[.int .i64 0] 27)
  have HV := callsIn_wide (n := 8).2 (valid_c A cap c hlen hbd _ ((hI.below hB0 (Nat.le_refl _)).more hB0.size))
  clear hI hbd
  rw [hbad] at HV
  refine callsIn_of_wp_marks Tryz.func27 rfl trivial ?_ hro
  simp only [Tryz.ntmps27, List.size_toArray, List.length_cons, List.length_nil, Nat.reduceAdd, Nat.reduceSub, Array.replicate_succ, Array.replicate_zero, List.push_toArray, List.append_toArray, List.nil_append, List.cons_append]
  gi_wp2_with fail
  refine ⟨trivial, ?_⟩
  (with_reducible refine HV.mono ?_); rintro e w1 ⟨rfl, hb1⟩
  obtain ⟨hc, hf⟩ := bcell hb1
  have hz := hb1.size
  simp only [World.size_alloc] at hc hf hz
  have hB := hB0.trans (hb1.mono hB0.size)
  have b4 := ((BoxN.new w 44 #[.slice none 0 0]).alloc (.cells #[.int .i64 0] 27)).below hb1 (by simp; omega)
  have b5 := (BoxN.new (w.alloc (.cells #[.slice none 0 0] 44)) 27 #[.int .i64 0]).below hb1 (by simp)
  rw [World.size_alloc] at b5
  gi_wp2
  obtain ⟨q4, q5⟩ := res2 (.slice none 0 0) (.int .i64 2) b4 b5 (by omega)
  have r4 := q4.cell 0
  have r5 := q5.cell 0
  refine ⟨.tuple #[.slice none 0 0, .int .i64 2], by simp [results, Tryz.f27, go_sem, r4, r5], rfl, ?_⟩
  (have hBs := hB.size; (try simp only [World.size_alloc] at hBs); repeat' (first | (with_reducible exact hB) | (with_reducible exact hBs) | (with_reducible refine Below.drew ?_) | (with_reducible refine below_drewN ?_ _) | (with_reducible refine Below.setCell ?_ ?_ _) | (with_reducible refine Below.alloc ?_ ?_ _) | go_size | omega | (simp; omega)))

theorem own_up {W : World} {base : Nat} {t : TypeId} {u v : Value} {e : TypeId} {size n : Nat} {xs : List Value} (hb : Boxed W base t u) (hte : t ≠ e) (h : W.ownsRow base e size v n xs) : W.ownsRow (base + 1) e size v n xs := by
  have hne := hb.not_row hte h
  refine ⟨h.1, ?_⟩
  rcases h.2 with h2 | ⟨g, cap, cur, e1, e2, e3⟩
  · exact .inl h2
  · refine .inr ⟨g, cap, cur, e1, ?_, e3⟩
    rw [e1] at hne
    have : base ≠ g := fun h => hne (by rw [h]; rfl)
    omega
theorem Own4.frWc {base : Nat} {W : World} {v : Value} {c : List Buck} (h : Own4 base W v c) : ∃ A cap, v = .slice A c.length cap ∧ c.length ≤ cap ∧ (c ≠ [] → ∃ g cs t, A = some ⟨g, 0, none⟩ ∧ base ≤ g ∧ W.heap[g]? = some (.cells cs t (0, 0)) ∧ Row W g 0 c) := by
  by_cases hc : c = []
  · subst hc
    exact ⟨none, 0, h.2.2 rfl, Nat.le_refl _, fun h => absurd rfl h⟩
  · obtain ⟨g, cap, rfl, hb, hlt⟩ := h.1.form (List.length_pos_iff.2 hc)
    rcases h.1.2 with ⟨e, _⟩ | ⟨g', cap', cur, e, _, e3, e4, _⟩
    · cases e
    · simp only [Value.slice.injEq, Option.some.injEq, Addr.mk.injEq, and_true, true_and] at e
      obtain ⟨rfl, rfl⟩ := e
      exact ⟨_, cap, rfl, e4, fun _ => ⟨g, cur, _, rfl, hb, e3, row_of_holdsK (holdsK_of_own h.1)⟩⟩

theorem compact_any (base : Nat) (v : Value) (c : List Pt) (hlen : c.length ≤ 1048576) (w : World) (ho : w.ownsRow base 25 2 v c.length (ptsOf c)) (hnil : v = .slice none 0 0 ↔ c = []) :
    Calls Tryz.prog 73 #[v] w fun e w' => ∃ A cap, e = .returned (.slice A (compL c).length cap) ∧ w.grownBy w' v.ownBlock ∧ (compL c ≠ [] → ∃ g, A = some ⟨g, 0, none⟩ ∧ v.ownBlock = some g ∧ g < w'.heap.size ∧ Row2 w' g 0 (compL c)) := by
  by_cases hc : c = []
  · subst hc
    obtain rfl : v = .slice none 0 0 := hnil.2 rfl
    clear ho hnil
    go_enter Tryz.func73, Tryz.ntmps73
    go_wp2
    go_ret
    exact ⟨none, 0, rfl, gb_refl _ _, fun h => absurd rfl h⟩
  · obtain ⟨g, cap, rfl, hb, hlt⟩ := ho.form (List.length_pos_iff.2 hc)
    exact (compact_own base g cap c hlen w ho).mono fun e w' ⟨h1, h2, h3, h4⟩ => ⟨some ⟨g, 0, none⟩, cap, h1, h2, fun _ => ⟨g, rfl, rfl, h4, h3⟩⟩

set_option maxRecDepth 100000 in
set_option maxHeartbeats 8000000 in
theorem breaks_in (A : Option Addr) (ca : Nat) (a : List Buck) (ha1 : 1 ≤ a.length) (ha2 : a.length ≤ 32) (w : World) (hIa : Sl w.heap.size w (.slice A a.length ca) a) :
    CallsIn Fence.wide 9 Tryz.prog 27 #[.slice A a.length ca] w (BreaksPost (normL a) w) := by
  have hro : Fence.wide.round = none := rfl
  obtain ⟨i0, hi, hz0, hz1, hz2⟩ := info_parts infoR
  have hB0 := ((Below.refl w.heap.size w).alloc (Nat.le_refl _) (.cells #[.slice none 0 0] 44)).alloc (by simp) (.cells #[.int .i64 0] 27)
  have HV := callsIn_wide (n := 8).2 (valid_ok ha1 ha2 ((hIa.below hB0 (Nat.le_refl _)).more hB0.size))
  have HA : Hid (∀ W : World, Below w.heap.size w W → CallsIn Fence.wide 8 Tryz.prog 65 #[.slice A a.length ca] W fun e w' => ∃ v, e = .returned v ∧ Own4 W.heap.size w' v (normL a) ∧ Below W.heap.size W w') := fun W hb => callsIn_wide.2 ((normal_any A ca a (by omega) W ((hIa.below hb (Nat.le_refl _)).more hb.size)).mono fun e w' ⟨v, h1, h2, h3, h4⟩ => ⟨v, h1, ⟨h2, h3⟩, h4⟩)
  have HP : Hid (∀ (A : Option Addr) (la ca : Nat) (W : World), _) := fun A la ca W => twos_in Fence.wide 8 trivial rfl A la ca W
  have hnl : (normL a).length ≤ 32 := Nat.le_trans (normL_len a) ha2
  have hbef := Lib.hid (twosL_mem (normL_nf a).o)
  clear hIa
  refine callsIn_of_wp_marks Tryz.func27 rfl trivial ?_ hro
  simp only [Tryz.ntmps27, List.size_toArray, List.length_cons, List.length_nil, Nat.reduceAdd, Nat.reduceSub, Array.replicate_succ, Array.replicate_zero, List.push_toArray, List.append_toArray, List.nil_append, List.cons_append]
  gi_wp2_with fail
  refine ⟨trivial, ?_⟩
  (with_reducible refine HV.mono ?_); rintro e w1 ⟨rfl, hb1⟩
  have hB1 := hB0.trans (hb1.mono hB0.size)
  have b4 := ((BoxN.new w 44 #[.slice none 0 0]).alloc (.cells #[.int .i64 0] 27)).below hb1 (by simp; omega)
  have b5 := (BoxN.new (w.alloc (.cells #[.slice none 0 0] 44)) 27 #[.int .i64 0]).below hb1 (by simp)
  rw [World.size_alloc] at b5
  have hBp := hB1.alloc hB1.size (.cells #[.slice none 0 0] 44)
  have HA1 := HA.out _ hBp
  have hwB : w.heap.size ≤ w1.heap.size := hB1.size
  clear HV HA hB0 hb1
  gi_wp2_with fail
  refine ⟨trivial, ?_⟩
  (with_reducible refine HA1.mono ?_); rintro e w2 ⟨va, rfl, hoa, hb2⟩
  have b5l : w.heap.size + 1 < w1.heap.size := b5.lt
  replace b4 := (b4.alloc (.cells #[.slice none 0 0] 44)).below hb2 (by simp; omega)
  replace b5 := (b5.alloc (.cells #[.slice none 0 0] 44)).below hb2 (by simp; omega)
  have bO0 : Boxed w2 w1.heap.size 44 (.slice none 0 0) := (hb2.block _ (by simp)).trans (Boxed.new w1 44 (.slice none 0 0))
  have hB2 := hBp.trans (hb2.mono hBp.size)
  have hzz := hb2.size
  rw [World.size_alloc] at hzz
  obtain ⟨Aa, cca, rfl, hcc, hra⟩ := hoa.frWc
  clear hoa HA1 hb2 hBp
  generalize hna : normL a = na at *
  clear hna
  have HP1 := HP.out Aa na.length cca w2
  gi_wp2_with fail
  refine ⟨trivial, ?_⟩
  (with_reducible refine HP1.mono ?_); rintro e w3 ⟨rfl, rfl⟩
  have bO := bO0.alloc (.cells #[.slice Aa na.length cca] 23)
  have hW0 : Below w2.heap.size w2 (w2.alloc (.cells #[.slice Aa na.length cca] 23)) := (Below.refl _ _).alloc (Nat.le_refl _) _
  have bA := BoxN.new w2 23 #[.slice Aa na.length cca]
  have hsz : (w2.alloc (.cells #[.slice Aa na.length cca] 23)).heap.size = w2.heap.size + 1 := by simp
  generalize w2.alloc (.cells #[.slice Aa na.length cca] 23) = W0 at bO hW0 bA hsz ⊢
  have sA : BoxSc w1.heap.size W0 w2.heap.size 23 na := ⟨fr_nil bO bA (by omega), Aa, cca, bA, hcc, fun h => by
    obtain ⟨g, cs, t, e, hbg, hg, hr⟩ := hra h
    have hgl := (Array.getElem?_eq_some_iff.1 hg).1
    rw [World.size_alloc] at hbg
    exact ⟨g, 0, e, fr_nil bO ((hW0.block g hgl).trans hg) (by omega), hr.same (hW0.block g hgl)⟩⟩
  have hgd := good_nil bO
  clear bA hra
  replace b4 := b4.below hW0 b4.lt
  replace b5 := b5.below hW0 b5.lt
  have hBq := hB2.trans (hW0.mono hB2.size)
  have htl : (twosL na).length ≤ 1024 := Nat.le_trans (twosL_length na) (Nat.le_trans (Nat.mul_le_mul hnl hnl) (by decide))
  clear HP1 HP hB1 hB2 hcc
  generalize w2.heap.size = bC at *
  generalize hbp : w1.heap.size = bp at *
  clear hbp
  have HAd : Hid (∀ (p : Buck × Buck) (W : World), CallsIn Fence.wide 6 Tryz.prog 71 #[.agg p.1.cells.toArray, .agg p.2.cells.toArray] W fun e w' => e = .returned (ratV (meetW p.1.b p.1.r p.2.b p.2.r)) ∧ Below W.heap.size W w') := fun p W => callsIn_wide.2 (meeting_q p.1.hb p.1.hr p.2.hb p.2.hr W)
  gi_wp2
  refine wpIn_rangeFunc_ownH hro (by decide) (gf := 107) (lb := #[.pointer (some ⟨bC, 0, none⟩)]) rfl trivial (enters_of Tryz.func107 (by kernel_rfl) rfl)
    (twos_stops Fence.wide 8 trivial rfl (by decide) bC bp bp na (by omega) W0 (by omega) hgd sA) Kp2.t (Kp2.b (by omega) (by omega)) (Below.refl _ _) (fun _ => rfl)
    (fun pre W => ((∃ v, Boxed W bp 44 v ∧ W.ownsRow bp 25 2 v pre.length (ptsOf (pre.map meetP)) ∧ (v = .slice none 0 0 ↔ pre = [])) ∧ (∀ p ∈ pre, okm p)) ∧ Below bp W0 W)
    (fun c pre W => ((c = .ret ∧ ∃ p, pre.getLast? = some p ∧ ¬ okm p) ∧ (BoxN W w.heap.size 44 #[.slice none 0 0] ∧ BoxN W (w.heap.size + 1) 27 #[.int .i64 (errL pre)])) ∧ Below w.heap.size w W)
    (OwnFrom.and (OwnFrom.and (Own.from (holdsRow_own bp bp 44 25 2 (fun pre : List (Buck × Buck) => pre.length) (fun pre => ptsOf (pre.map meetP)) (fun pre v => v = .slice none 0 0 ↔ pre = [])) _) (ownFrom_pure _ _)) (ownFrom_below (by omega) (by omega)))
    (fun c => OwnFrom.and (OwnFrom.and (ownFrom_pure _ _) (OwnFrom.and (Own.from (boxN_own _ _ (fun _ : List (Buck × Buck) => #[.slice none 0 0])) _) (Own.from (boxN_own _ _ (fun l : List (Buck × Buck) => #[.int .i64 (errL l)])) _))) (ownFrom_below (Nat.le_refl _) (by omega)))
    ⟨⟨⟨_, bO, World.ownsRow_nil _ _ _ _, by simp⟩, by simp⟩, Below.refl _ _⟩
    (fun p a' W => ∃ Bx By, (bp < Bx ∧ bp < By) ∧ (BoxN W Bx 80 p.1.cells.toArray ∧ BoxN W By 80 p.2.cells.toArray) ∧ a' = { tmps := #[.slice A a.length ca, undef, .pointer (some ⟨w.heap.size, 0, none⟩), .pointer (some ⟨w.heap.size + 1, 0, none⟩), .pointer (some ⟨bp, 0, none⟩), .pointer (some ⟨Bx, 0, none⟩), .pointer (some ⟨By, 0, none⟩), undef, undef, .slice A a.length ca, .bool true, .bool false, .slice A a.length ca, .slice Aa na.length cca, .func (.func 107) #[] #[.pointer (some ⟨bC, 0, none⟩)], .agg p.1.cells.toArray, .agg p.2.cells.toArray, undef, undef, undef, undef, undef, undef, undef, undef, undef, undef, undef, undef, undef, undef, undef, undef, undef], defers := [] })
    (fun p a' _ X Y row hs hg hr => by obtain ⟨Bx, By, h1, ⟨h2, h3⟩, h4⟩ := hs; exact ⟨Bx, By, h1, ⟨boxN_own Bx 80 (fun (_ : Unit) => p.1.cells.toArray) () X Y row h2 hg (fun r e => (hr r e).2), boxN_own By 80 (fun (_ : Unit) => p.2.cells.toArray) () X Y row h3 hg (fun r e => (hr r e).2)⟩, h4⟩)
    ?assign ?body ?done ?stop
  case assign =>
    rintro l pre p W K ⟨⟨⟨v, hv, hrow, hnil⟩, hok⟩, hB⟩ hK
    simp only [Buck.cells] at hK ⊢
    gi_wp2
    have hx1 : Below W.heap.size W ((W.alloc (.cells #[.int .i64 p.1.b.num, .int .i64 p.1.b.den, .int .i64 p.1.r.num, .int .i64 p.1.r.den] 80)).alloc (.cells #[.int .i64 p.2.b.num, .int .i64 p.2.b.den, .int .i64 p.2.r.num, .int .i64 p.2.r.den] 80)) := ((Below.refl _ _).alloc (Nat.le_refl _) _).alloc (by simp) _
    have hWz := hB.size
    have hvl := hv.lt
    exact hK _ _ (keepsFrom_below hx1) ⟨hx1.mono (by omega), Kf.below hx1 hv.lt⟩ ⟨⟨⟨v, (hv.alloc _).alloc _, (hrow.alloc _).alloc _, hnil⟩, hok⟩, hB.trans (hx1.mono (by omega))⟩
      ⟨W.heap.size, W.heap.size + 1, ⟨by omega, by omega⟩, ⟨(BoxN.new W _ _).alloc _, by have := BoxN.new (W.alloc (.cells #[.int .i64 p.1.b.num, .int .i64 p.1.b.den, .int .i64 p.1.r.num, .int .i64 p.1.r.den] 80)) 80 #[.int .i64 p.2.b.num, .int .i64 p.2.b.den, .int .i64 p.2.r.num, .int .i64 p.2.r.den]; rwa [World.size_alloc] at this⟩, rfl⟩
  case body =>
    rintro l pre p a' W hl ⟨r, hr⟩ ⟨⟨⟨v, hv, hrow, hnil⟩, hok⟩, hB⟩ ⟨Bx, By, ⟨hBx, hBy⟩, ⟨bX, bY⟩, rfl⟩ hlt
    have hWz := hB.size
    have hvl := hv.lt
    have x0 : W.cell? ⟨Bx, 0, none⟩ = some (.int .i64 p.1.b.num) := bX.cell 0
    have x1 : W.cell? ⟨Bx, 1, none⟩ = some (.int .i64 p.1.b.den) := bX.cell 1
    have x2 : W.cell? ⟨Bx, 2, none⟩ = some (.int .i64 p.1.r.num) := bX.cell 2
    have x3 : W.cell? ⟨Bx, 3, none⟩ = some (.int .i64 p.1.r.den) := bX.cell 3
    have y0 : W.cell? ⟨By, 0, none⟩ = some (.int .i64 p.2.b.num) := bY.cell 0
    have y1 : W.cell? ⟨By, 1, none⟩ = some (.int .i64 p.2.b.den) := bY.cell 1
    have y2 : W.cell? ⟨By, 2, none⟩ = some (.int .i64 p.2.r.num) := bY.cell 2
    have y3 : W.cell? ⟨By, 3, none⟩ = some (.int .i64 p.2.r.den) := bY.cell 3
    have hc := hv.cell
    have HAp := HAd.out p
    by_cases hka : okm p
    · rw [meetW_ok hka] at HAp
      have hsn := ptsOf_snoc (pre.map meetP) (meetP p)
      rw [meet_cells hka] at hsn
      generalize (meetQ p).num = tn at HAp hsn
      generalize ((meetQ p).den : Int) = td at HAp hsn
      have HAp := Lib.hid HAp
      have hSn : Hid (ptsOf ((pre ++ [p]).map meetP) = ptsOf (pre.map meetP) ++ [.int .i64 tn, .int .i64 td]) := by unfold Hid; rw [List.map_append]; exact hsn
      have hone : ∀ u ∈ [Value.int .i64 tn, .int .i64 td], u.oneCell' = true := by
        intro u hu
        simp only [List.mem_cons, List.not_mem_nil, or_false] at hu
        rcases hu with rfl | rfl <;> rfl
      have hlt2 : pre.length < 1024 := by omega
      clear hsn
      simp only [ratV, Buck.cells] at HAp ⊢
      gi_wp2_with fail
      refine ⟨trivial, ?_⟩
      (with_reducible refine (CallsIn.inRound l (HAp.out _)).mono ?_); rintro e w5 ⟨rfl, hb5⟩
      have hz5 := hb5.size
      have hv5 : Boxed w5 bp 44 v := (hb5.block _ hv.lt).trans hv
      have ho5 := own_below hrow hb5
      have hc5 : w5.cell? ⟨bp, 0, none⟩ = some v := hv5.cell
      have k5v : bp < w5.heap.size := hv5.lt
      have hNew : ((w5.alloc (.cells #[.int .i64 tn, .int .i64 td] 25)).alloc (.cells #[.int .i64 tn, .int .i64 td] 25)).heap[w5.heap.size + 1]? = some (.cells #[.int .i64 tn, .int .i64 td] 25 (0, 0)) := by simpa using heap_alloc_new (w5.alloc (.cells #[.int .i64 tn, .int .i64 td] 25)) (.cells #[.int .i64 tn, .int .i64 td] 25)
      have hNews := Lib.hid (World.news_of_block hNew)
      have hrow3 := (ho5.alloc (.cells #[.int .i64 tn, .int .i64 td] 25)).alloc (.cells #[.int .i64 tn, .int .i64 td] 25)
      have hv3 := (hv5.alloc (.cells #[.int .i64 tn, .int .i64 td] 25)).alloc (.cells #[.int .i64 tn, .int .i64 td] 25)
      clear hNew
      gi_wp2_with (gi_at_builtin; refine wpListIn_append_at _ rfl _ _ 44 rfl bp 25 i0 _ 2 16 Tryz.underlying44 hi hz0 hz1 hz2 rfl (by decide) _ _ _ rfl hrow3 ⟨w5.heap.size + 1, 0, none⟩ 1 1 [.int .i64 tn, .int .i64 td] rfl rfl hNews.out hone (by unfold maxLen; omega) (by omega) (by simp; omega) ?_; intro v' w6 hown' hgrow hat; obtain ⟨g', cap', rfl⟩ := ownsRow_succ hown'; obtain ⟨hv1, hv2, hr2, hk2, hb2⟩ := (hv5.alloc (.cells #[.int .i64 tn, .int .i64 td] 25)).appended (by decide) (ho5.alloc (.cells #[.int .i64 tn, .int .i64 td] 25)) (by simp; omega) (Nat.le_refl _) hown' hgrow; have hc1 := hv1.cell; have hf1 := hv1.frozen)
      have hBW : Below bp W (w6.setCell ⟨bp, 0, none⟩ (.slice (some ⟨g', 0, none⟩) (pre.length + 1) cap')) := (hb5.mono (by omega)).trans (((Below.refl _ _).alloc (by omega) _).trans hb2)
      have hAA : Below w5.heap.size w5 ((w5.alloc (.cells #[.int .i64 tn, .int .i64 td] 25)).alloc (.cells #[.int .i64 tn, .int .i64 td] 25)) := ((Below.refl _ _).alloc (Nat.le_refl _) _).alloc (by simp) _
      refine ⟨(keepsFrom_below hb5).trans (((KeepsOthers.alloc _ _).trans hk2).from _), ⟨hBW, (Kf.below hb5 hv.lt).trans ((Kf.below hAA k5v).trans (Kf.app hv3 (by decide) hrow3 hown' hgrow hat))⟩, ⟨⟨_, hv2, ?_, by simp⟩, ?_⟩, hB.trans hBW⟩
      · rw [hSn.out, List.length_append]; exact hr2
      · intro q hq
        rcases List.mem_append.1 hq with hq | hq
        · exact hok q hq
        · simp at hq; subst hq; exact hka
    · rw [meetW_no hka] at HAp
      have hek := errM_pos p
      have hel := Lib.hid (errL_snoc pre p)
      generalize errM p = ek at HAp hek hel
      have hne : (ek != 0) = true := by rcases hek with rfl | rfl <;> rfl
      have hne2 : (ek == 0) = false := by rcases hek with rfl | rfl <;> rfl
      clear hek
      have HAp := Lib.hid HAp
      simp only [ratV, Buck.cells] at HAp ⊢
      gi_wp2_with fail
      refine ⟨trivial, ?_⟩
      (with_reducible refine (CallsIn.inRound l (HAp.out _)).mono ?_); rintro e w5 ⟨rfl, hb5⟩
      have q4 := (b4.below hB (by omega)).below hb5 (by omega)
      have q5 := (b5.below hB (by omega)).below hb5 (by omega)
      have c4 : w5.cell? ⟨w.heap.size, 0, none⟩ = some (.slice none 0 0) := q4.cell 0
      have c5 : w5.cell? ⟨w.heap.size + 1, 0, none⟩ = some (.int .i64 0) := q5.cell 0
      have f4 := q4.frozen 0
      have f5 := q5.frozen 0
      have k4 := q4.lt
      have k5 := q5.lt
      gi_wp2
      refine ⟨?_, ⟨⟨rfl, p, by simp, hka⟩, (res2 _ _ q4 q5 (by omega)).1.alloc _, by rw [hel.out]; exact (res2 _ _ q4 q5 (by omega)).2.alloc _⟩, ?_⟩
      · exact (keepsFrom_below hb5).trans ((((KeepsOthers.setCell _ _ _).trans (KeepsOthers.setCell _ _ _)).trans (KeepsOthers.alloc _ _)).from _)
      · have hBw : Below w.heap.size w w5 := hBq.trans ((hB.mono hwB).trans (hb5.mono (by omega)))
        exact ((hBw.setCell (p := ⟨w.heap.size, 0, none⟩) (Nat.le_refl _) _).setCell (p := ⟨w.heap.size + 1, 0, none⟩) (by simp) _).alloc (by simp [World.setCell]; omega) _
  case done =>
    rintro D ys W hD rfl ⟨⟨⟨v, hv, hrow, hnil⟩, hok⟩, hB⟩ hK
    have hWz := hB.size
    have hc := hv.cell
    have hO : W.ownsRow (bp + 1) 25 2 v ((twosL na).map meetP).length (ptsOf ((twosL na).map meetP)) := by rw [List.length_map]; exact own_up hv (by decide) hrow
    have hN : v = .slice none 0 0 ↔ (twosL na).map meetP = [] := by rw [List.map_eq_nil_iff]; exact hnil
    have hPl : ((twosL na).map meetP).length ≤ 1024 := by rw [List.length_map]; exact htl
    have Hok := Lib.hid hok
    have hBw : Below w.heap.size w W := hBq.trans (hB.mono hwB)
    have q4 := b4.below hB (by omega)
    have q5 := b5.below hB (by omega)
    have hbr : Hid (brkL na = compL (sortP ((twosL na).map meetP))) := rfl
    generalize (twosL na).map meetP = PL at *
    have hDv : v.ownBlock ≠ some D := fun e => by
      rcases hO.2 with ⟨e1, _⟩ | ⟨g, cap, cur, e1, _, e3, _⟩
      · rw [e1] at e; cases e
      · rw [e1] at e; cases e; rw [hK] at e3; cases e3
    have hvb : ∀ k, v.ownBlock = some k → bp + 1 ≤ k := fun k hk => own_block_le hO hk
    have hDl : D < W.heap.size := (Array.getElem?_eq_some_iff.1 hK).1
    have hS := callsIn_wide (n := 8).2 (sortFuncP_own (bp + 1) v PL (by omega) W hO hN)
    have HC : Hid (∀ W1 : World, W1.ownsRow (bp + 1) 25 2 v (sortP PL).length (ptsOf (sortP PL)) → _) := fun W1 h1 => callsIn_wide (n := 8).2 (compact_any (bp + 1) v (sortP PL) (by rw [sortP_length]; omega) W1 h1 (by
      rw [hN]
      constructor
      · intro h; rw [h]; exact List.length_eq_zero_iff.1 (sortP_length [])
      · intro h; have := sortP_length PL; rw [h] at this; exact List.length_eq_zero_iff.1 this.symm))
    rw [← hbr.out] at HC
    clear hN hO hrow hnil hok
    gi_wp2_with fail
    refine ⟨trivial, ?_⟩
    (with_reducible refine hS.mono ?_); rintro e w5 ⟨rfl, hg5, hO5⟩
    have hC1 := HC.out w5 hO5
    have hv5 := hv.kept hg5 (fun e => by have := hvb bp e.symm; omega)
    have hc5 := hv5.cell
    have p4 := BoxN.kept q4 hg5 (fun e => by have := hvb _ e.symm; omega)
    have p5 := BoxN.kept q5 hg5 (fun e => by have := hvb _ e.symm; omega)
    have hK5 : w5.heap[D]? = some (.deferred (some [])) := (hg5.block D hDl (fun e => hDv e.symm)).trans hK
    clear hS HC hO5 hc
    gi_wp2_with fail
    refine ⟨trivial, ?_⟩
    (with_reducible refine hC1.mono ?_); rintro e w6 ⟨A6, cc6, rfl, hg6, hr6⟩
    have hs56 := hg6.size
    have hs5 := hg5.size
    replace p4 := BoxN.kept p4 hg6 (fun e => by have := hvb _ e.symm; omega)
    replace p5 := BoxN.kept p5 hg6 (fun e => by have := hvb _ e.symm; omega)
    have hK6 : w6.heap[D]? = some (.deferred (some [])) := (hg6.block D (by omega) (fun e => hDv e.symm)).trans hK5
    have hB6 : Below w.heap.size w w6 := (hBw.grown hg5 hBw.size (fun k e => by have := hvb k e; omega)).grown hg6 (by have := hBw.size; omega) (fun k e => by have := hvb k e; omega)
    have c4 : w6.cell? ⟨w.heap.size, 0, none⟩ = some (.slice none 0 0) := p4.cell 0
    have c5 : w6.cell? ⟨w.heap.size + 1, 0, none⟩ = some (.int .i64 0) := p5.cell 0
    have f4 := p4.frozen 0
    have f5 := p5.frozen 0
    have k4 := p4.lt
    have k5 := p5.lt
    have hKs : ((w6.setCell ⟨w.heap.size, 0, none⟩ (.slice A6 (brkL na).length cc6)).setCell ⟨w.heap.size + 1, 0, none⟩ (.int .i64 0)).heap[D]? = some (.deferred (some [])) :=
      (Below.heap_setCell _ _ _ D (by simp; omega)).trans ((Below.heap_setCell _ _ _ D (by simp; omega)).trans hK6)
    obtain ⟨r4, r5⟩ := res2 (.slice A6 (brkL na).length cc6) (.int .i64 0) p4 p5 (by omega)
    have hr7 : SlP (((w6.setCell ⟨w.heap.size, 0, none⟩ (.slice A6 (brkL na).length cc6)).setCell ⟨w.heap.size + 1, 0, none⟩ (.int .i64 0)).putObj D (.deferred none)) A6 (brkL na) := fun h => by
      obtain ⟨g, e1, e2, e3, e4⟩ := hr6 h
      have hbg := hvb g e2
      have hgD : g ≠ D := fun e => hDv (by rw [e2, e])
      have hsame : (((w6.setCell ⟨w.heap.size, 0, none⟩ (.slice A6 (brkL na).length cc6)).setCell ⟨w.heap.size + 1, 0, none⟩ (.int .i64 0)).putObj D (.deferred none)).heap[g]? = w6.heap[g]? :=
        (World.putObj_heap_other hgD).trans ((Below.heap_setCell _ _ _ g (by simp; omega)).trans (Below.heap_setCell _ _ _ g (by simp; omega)))
      refine ⟨g, e1, by simpa [World.setCell] using e3, fun j x hx => ?_⟩
      obtain ⟨u0, u1⟩ := e4 j x hx
      exact ⟨(cell_same hsame _).trans u0, (cell_same hsame _).trans u1⟩
    have s4 := Lib.hid ((cell_same (World.putObj_heap_other (w := (w6.setCell ⟨w.heap.size, 0, none⟩ (.slice A6 (brkL na).length cc6)).setCell ⟨w.heap.size + 1, 0, none⟩ (.int .i64 0)) (o := .deferred none) (show w.heap.size ≠ D by omega)) 0).trans (r4.cell 0))
    have s5 := Lib.hid ((cell_same (World.putObj_heap_other (w := (w6.setCell ⟨w.heap.size, 0, none⟩ (.slice A6 (brkL na).length cc6)).setCell ⟨w.heap.size + 1, 0, none⟩ (.int .i64 0)) (o := .deferred none) (show w.heap.size + 1 ≠ D by omega)) 0).trans (r5.cell 0))
    have HKs := Lib.hid hKs
    have Hr7 := Lib.hid hr7
    clear hKs hr7 r4 r5 hr6 hC1 hc5 hg5 hg6
    gi_wp2
    refine ⟨by simp, .inl ⟨_, _, rfl, run_takeDeferred HKs.out, ?_⟩⟩
    refine ⟨.tuple #[.slice A6 (brkL na).length cc6, .int .i64 0], by simp [results, Tryz.f27, go_sem, s4.out, s5.out], fun h => absurd Hok.out h, fun _ => ⟨_, _, rfl, Hr7.out⟩, ?_⟩
    exact ((hB6.setCell (p := ⟨w.heap.size, 0, none⟩) (Nat.le_refl _) _).setCell (p := ⟨w.heap.size + 1, 0, none⟩) (by simp) _).trans (belowK_b (w := w) (Nat.le_refl _) _ D _ _ (by omega) HKs.out rfl rfl)
  case stop =>
    rintro D c pre W hD hpre ⟨⟨⟨rfl, p, hp, hnok⟩, q4, q5⟩, hB⟩ hK
    have hpm : p ∈ twosL na := hpre.subset (List.mem_of_getLast? hp)
    have hno : ¬ ∀ p ∈ twosL na, okm p := fun h => hnok (h p hpm)
    have hel : errL pre = 3 := by unfold errL; rw [hp]; exact errM_bef (hbef.out p hpm)
    rw [hel] at q5
    have r4 : (W.putObj D (.deferred none)).cell? ⟨w.heap.size, 0, none⟩ = some (.slice none 0 0) := (cell_same (World.putObj_heap_other (by omega)) 0).trans (q4.cell 0)
    have r5 : (W.putObj D (.deferred none)).cell? ⟨w.heap.size + 1, 0, none⟩ = some (.int .i64 3) := (cell_same (World.putObj_heap_other (by omega)) 0).trans (q5.cell 0)
    clear hel
    gi_wp2
    refine ⟨by simp, .inl ⟨_, _, rfl, run_takeDeferred hK, ?_⟩⟩
    refine ⟨.tuple #[.slice none 0 0, .int .i64 3], by simp [results, Tryz.f27, go_sem, r4, r5], fun _ => rfl, fun h => absurd h hno, ?_⟩
    exact hB.trans (belowK_b (w := w) (Nat.le_refl _) W D _ _ (by omega) hK rfl rfl)
end Go.Proofs.YtaanhddgmiggfaaGreat
