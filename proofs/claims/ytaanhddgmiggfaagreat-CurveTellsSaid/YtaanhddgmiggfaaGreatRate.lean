/- slices.MinFunc at a curve and curve.Rate. -/
import Derived.Test.YtaanhddgmiggfaaGreatShift
namespace Go.Proofs.YtaanhddgmiggfaaGreat
open Go.RowKit Go.Joins Go.Shelf Go.Sort Num

theorem BoxN.set4 {W : World} {B : Nat} {t : TypeId} {x y z u : Value} (x' y' z' u' : Value) (h : BoxN W B t #[x, y, z, u]) :
    BoxN ((((W.setCell ⟨B, 0, none⟩ x').setCell ⟨B, 1, none⟩ y').setCell ⟨B, 2, none⟩ z').setCell ⟨B, 3, none⟩ u') B t #[x', y', z', u'] := (((h.set1 0 x').set1 1 y').set1 2 z').set1 3 u'

/-- The bucket of the smallest rate, the first one of several. -/
def rateStep (m y : Buck) : Buck := if y.r < m.r then y else m
def minB (c : List Buck) : Buck := match c with | [] => default | x :: l => l.foldl rateStep x
theorem minB_snoc (c : List Buck) (x : Buck) (h : c ≠ []) : minB (c ++ [x]) = rateStep (minB c) x := by
  cases c with
  | nil => exact absurd rfl h
  | cons y c => simp [minB, List.foldl_append]
def rateL (c : List Buck) : Rat := (minB c).r

theorem rate1_r (x y : Buck) (w : World) :
    Calls Tryz.prog 63 #[.agg x.cells.toArray, .agg y.cells.toArray] w fun e w' => e = .returned (.int .i64 (cmpQ x.r y.r)) ∧ Below w.heap.size w w' := by
  have C2 : Hid (∀ W : World, _) := fun W => cmp_r x.hr y.hr W
  have hB := ((Below.refl w.heap.size w).alloc (Nat.le_refl _) (.cells #[.int .i64 x.b.num, .int .i64 x.b.den, .int .i64 x.r.num, .int .i64 x.r.den] 80)).alloc (by simp) (.cells #[.int .i64 y.b.num, .int .i64 y.b.den, .int .i64 y.r.num, .int .i64 y.r.den] 80)
  generalize cmpQ x.r y.r = c2 at C2 ⊢
  simp only [Buck.cells]
  go_enter Tryz.func63, Tryz.ntmps63
  go_wp2_with fail
  refine (C2.out _).mono ?_; rintro e w1 ⟨rfl, hb1⟩
  go_wp2
  go_ret
  exact ⟨rfl, hB.trans (hb1.b.mono hB.size)⟩

set_option maxRecDepth 100000 in
set_option maxHeartbeats 4000000 in
theorem minFunc_any (A : Option Addr) (cap : Nat) (c : List Buck) (hl1 : 1 ≤ c.length) (hl2 : c.length ≤ 1048576) (w : World) (hI : Sl w.heap.size w (.slice A c.length cap) c) :
    Calls Tryz.prog 62 #[.slice A c.length cap, .func (.func 63) #[] #[]] w fun e w' => e = .returned (.agg (minB c).cells.toArray) ∧ Below w.heap.size w w' := by
  obtain ⟨A', cap', e, hrow⟩ := hI
  simp only [Value.slice.injEq, true_and] at e
  obtain ⟨rfl, rfl⟩ := e
  obtain ⟨b, off, rfl, hb, hr⟩ := hrow (by intro h; subst h; simp at hl1)
  have HX : Hid (∀ (x y : Buck) (W : World), _) := fun x y W => rate1_r x y W
  obtain ⟨y, hy⟩ : ∃ y, c[0]? = some y := ⟨c[0], List.getElem?_eq_getElem hl1⟩
  have hone : c.take 1 = [y] := by rw [List.take_one, List.head?_eq_getElem?, hy]; rfl
  obtain ⟨y0, y1, y2, y3⟩ := hr 0 y hy
  simp only [Nat.zero_mul, Nat.add_zero] at y0 y1 y2 y3
  have h1' : decide ((c.length : Int) < 1) = false := by simp; omega
  clear hrow hy
  go_enter Tryz.func62, Tryz.ntmps62
  go_wp2_with fail
  have bR := BoxN.new w 80 #[.int .i64 0, .int .i64 0, .int .i64 0, .int .i64 0]
  have hB1 : Below w.heap.size w (w.alloc (.cells #[.int .i64 0, .int .i64 0, .int .i64 0, .int .i64 0] 80)) := (Below.refl _ w).alloc (Nat.le_refl _) _
  have hz1 : (w.alloc (.cells #[.int .i64 0, .int .i64 0, .int .i64 0, .int .i64 0] 80)).heap.size = w.heap.size + 1 := by simp
  have bM := BoxN.new (w.alloc (.cells #[.int .i64 0, .int .i64 0, .int .i64 0, .int .i64 0] 80)) 80 #[.int .i64 y.b.num, .int .i64 y.b.den, .int .i64 y.r.num, .int .i64 y.r.den]
  rw [hz1] at bM
  go_loopw [6] (fun i wr => ∃ k : Nat, 1 ≤ k ∧ k ≤ c.length ∧ i = .int .i64 k ∧ BoxN wr (w.heap.size + 1) 80 (minB (c.take k)).cells.toArray ∧ Below (w.heap.size + 1) (w.alloc (.cells #[.int .i64 0, .int .i64 0, .int .i64 0, .int .i64 0] 80)) wr)
    (fun i _ => c.length - (intOf i).toNat)
  case atStart => exact ⟨1, by omega, hl1, rfl, by rw [hone]; exact bM, (Below.refl _ _).alloc (by simp) _⟩
  case round =>
    obtain ⟨k, hk1, hk, rfl, bW, hBr⟩ := hrel
    by_cases hlt : k < c.length
    · have hx : c[k]? = some c[k] := List.getElem?_eq_getElem hlt
      obtain ⟨x, hxe⟩ : ∃ x, c[k] = x := ⟨_, rfl⟩
      rw [hxe] at hx
      have hts := take_succ' hx
      have hkm : c.take k ≠ [] := by intro h; rw [List.take_eq_nil_iff] at h; rcases h with h | h; omega; subst h; simp at hlt
      have hmin : Hid (minB (c.take (k + 1)) = rateStep (minB (c.take k)) x) := by unfold Hid; rw [hts, minB_snoc _ _ hkm]
      obtain ⟨c0, c1, c2, c3⟩ := (hr.below hB1 hb).below hBr (by omega) k x hx
      generalize minB (c.take k) = m at bW hmin
      have HC := fun W => HX.out x m W
      have hcq := @cmpQ_neg x.r m.r
      obtain ⟨cq, hcqe⟩ : ∃ cq, cmpQ x.r m.r = cq := ⟨_, rfl⟩
      rw [hcqe] at HC hcq
      have HC := Lib.hid HC
      have Hcq : Hid (cq < 0 ↔ x.r < m.r) := hcq
      have hbw : b < wr.heap.size := by have := hBr.size; simp at this; omega
      have bWl := bW.lt
      have p0 := Gr.cell (bW.cell 0) bW.lt
      have p1 := Gr.cell (bW.cell 1) bW.lt
      have p2 := Gr.cell (bW.cell 2) bW.lt
      have p3 := Gr.cell (bW.cell 3) bW.lt
      have q0 := Gr.cell c0 hbw
      have q1 := Gr.cell c1 hbw
      have q2 := Gr.cell c2 hbw
      have q3 := Gr.cell c3 hbw
      simp only [Buck.cells] at HC
      haveI : Nonempty (Wd (Gr wr)) := ⟨⟨wr, Below.refl _ _⟩⟩
      have hk1' := hlt
      clear hts hkm hcq hcqe hx hxe
      go_wp2_with fail
      refine wp_region_cls (Gr wr) (by kernel_rfl) (by kernel_rfl) (Gr.start wr) ?_
      repeat (go_big_quiet_step ((go_at_call 63; exact Calls.cls Gr.close (HC.out _))))
      refine wpQuiet_nil ?_
      intro _ hw'
      obtain ⟨s0, rfl⟩ := hw'
      have hG : Below wr.heap.size wr s0.val := s0.ok
      generalize s0.val = v1 at hG ⊢
      have bW1 := bW.below hG bW.lt
      have hB1' : Below (w.heap.size + 1) (w.alloc (.cells #[.int .i64 0, .int .i64 0, .int .i64 0, .int .i64 0] 80)) v1 := hBr.trans (hG.mono (by omega))
      have e0 : v1.cell? ⟨b, off + k * 4, none⟩ = some (.int .i64 x.b.num) := (hG.cell (p := ⟨b, off + k * 4, none⟩) hbw).trans c0
      have e1 : v1.cell? ⟨b, off + k * 4 + 1, none⟩ = some (.int .i64 x.b.den) := (hG.cell (p := ⟨b, off + k * 4 + 1, none⟩) hbw).trans c1
      have e2 : v1.cell? ⟨b, off + k * 4 + 2, none⟩ = some (.int .i64 x.r.num) := (hG.cell (p := ⟨b, off + k * 4 + 2, none⟩) hbw).trans c2
      have e3 : v1.cell? ⟨b, off + k * 4 + 3, none⟩ = some (.int .i64 x.r.den) := (hG.cell (p := ⟨b, off + k * 4 + 3, none⟩) hbw).trans c3
      have n0 : v1.cell? ⟨w.heap.size + 1, 0, none⟩ = some (.int .i64 m.b.num) := bW1.cell 0
      have n1 : v1.cell? ⟨w.heap.size + 1, 1, none⟩ = some (.int .i64 m.b.den) := bW1.cell 1
      have n2 : v1.cell? ⟨w.heap.size + 1, 2, none⟩ = some (.int .i64 m.r.num) := bW1.cell 2
      have n3 : v1.cell? ⟨w.heap.size + 1, 3, none⟩ = some (.int .i64 m.r.den) := bW1.cell 3
      have f0 := bW1.frozen 0
      have f1 := bW1.frozen 1
      have f2 := bW1.frozen 2
      have f3 := bW1.frozen 3
      have bWl1 := bW1.lt
      clear s0 p0 p1 p2 p3 q0 q1 q2 q3
      by_cases hq : cq < 0
      · have hlq : Hid (x.r < m.r) := Hcq.out.1 hq
        go_wp2
        go_roundw
        case rel => exact ⟨k + 1, by omega, hk1', by go_num, by rw [hmin.out, rateStep, if_pos hlq.out]; exact bW1.set4 _ _ _ _, (((hB1'.setCell (p := ⟨w.heap.size + 1, 0, none⟩) (Nat.le_refl _) _).setCell (p := ⟨w.heap.size + 1, 1, none⟩) (Nat.le_refl _) _).setCell (p := ⟨w.heap.size + 1, 2, none⟩) (Nat.le_refl _) _).setCell (p := ⟨w.heap.size + 1, 3, none⟩) (Nat.le_refl _) _⟩
        case measure => simp [intOf]; omega
      · have hlq : Hid (¬ x.r < m.r) := fun h => hq (Hcq.out.2 h)
        go_wp2
        go_roundw
        case rel => exact ⟨k + 1, by omega, hk1', by go_num, by rw [hmin.out, rateStep, if_neg hlq.out]; exact bW1, hB1'⟩
        case measure => simp [intOf]; omega
    · obtain rfl : k = c.length := by omega
      rw [List.take_length] at bW
      have bR1 := bR.below hBr (by omega)
      have n0 : wr.cell? ⟨w.heap.size + 1, 0, none⟩ = some (.int .i64 (minB c).b.num) := bW.cell 0
      have n1 : wr.cell? ⟨w.heap.size + 1, 1, none⟩ = some (.int .i64 (minB c).b.den) := bW.cell 1
      have n2 : wr.cell? ⟨w.heap.size + 1, 2, none⟩ = some (.int .i64 (minB c).r.num) := bW.cell 2
      have n3 : wr.cell? ⟨w.heap.size + 1, 3, none⟩ = some (.int .i64 (minB c).r.den) := bW.cell 3
      have r0 : wr.cell? ⟨w.heap.size, 0, none⟩ = some (.int .i64 0) := bR1.cell 0
      have r1 : wr.cell? ⟨w.heap.size, 1, none⟩ = some (.int .i64 0) := bR1.cell 1
      have r2 : wr.cell? ⟨w.heap.size, 2, none⟩ = some (.int .i64 0) := bR1.cell 2
      have r3 : wr.cell? ⟨w.heap.size, 3, none⟩ = some (.int .i64 0) := bR1.cell 3
      have f0 := bR1.frozen 0
      have f1 := bR1.frozen 1
      have f2 := bR1.frozen 2
      have f3 := bR1.frozen 3
      have hB := hB1.trans (hBr.mono (by omega))
      go_wp2_with fail
      refine bodyPost_ret (v := .agg #[.int .i64 (minB c).b.num, .int .i64 (minB c).b.den, .int .i64 (minB c).r.num, .int .i64 (minB c).r.den]) (by simp [results, Tryz.results62, go_sem, r0, r1, r2, r3]) rfl ⟨rfl, ?_⟩
      (have hBs := hB.size; (try simp only [World.size_alloc] at hBs); repeat' (first | (with_reducible exact hB) | (with_reducible exact hBs) | (with_reducible refine Below.drew ?_) | (with_reducible refine below_drewN ?_ _) | (with_reducible refine Below.setCell ?_ ?_ _) | (with_reducible refine Below.alloc ?_ ?_ _) | go_size | omega | (simp; omega)))
end Go.Proofs.YtaanhddgmiggfaaGreat
