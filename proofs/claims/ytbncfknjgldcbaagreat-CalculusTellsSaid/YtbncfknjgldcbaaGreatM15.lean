/- Merged texts: CGreat. -/
import Derived.Test.YtbncfknjgldcbaaGreatM12
import Derived.Test.YtbncfknjgldcbaaGreatM14
import Derived.Test.YtbncfknjgldcbaaGreatM4
/- calculus.search.greatest, over the function values of Delay and Backlog. -/
namespace Go.Proofs.YtbncfknjgldcbaaGreat
open Go.RowKit Go.Joins Go.Shelf Go.Sort Num
attribute [local go_sem] Oper.semAt_some

/-- The greatest value, from 0 on. -/
def mxStep (val : Tk → Option Rat) (m : Rat) (x : Tk) : Rat := if m < (val x).getD 0 then (val x).getD 0 else m
def mxV (val : Tk → Option Rat) (l : List Tk) : Rat := l.foldl (mxStep val) 0
theorem mxV_snoc (val : Tk → Option Rat) (l : List Tk) (x : Tk) : mxV val (l ++ [x]) = mxStep val (mxV val l) x := by unfold mxV; rw [List.foldl_append]; rfl
/-- What greatest answers. -/
def greatO (val : Tk → Option Rat) (l : List Tk) : Option Rat := if ∀ x ∈ l, (val x).isSome = true then some (mxV val l) else none
theorem mxV_fit {val : Tk → Option Rat} (hv : ∀ x, fitO (val x)) (l : List Tk) : Fit (mxV val l) := by
  have : ∀ (l : List Tk) (m : Rat), Fit m → Fit (l.foldl (mxStep val) m) := by
    intro l
    induction l with
    | nil => intro m hm; exact hm
    | cons x l ih =>
      intro m hm
      refine ih _ ?_
      unfold mxStep
      split
      · cases hx : val x with
        | none => rw [Option.getD_none]; exact (by decide : Fit 0)
        | some v => exact hv x v hx
      · exact hm
  exact this l 0 (by decide)
def mxC (val : Tk → Option Rat) (l : List Tk) : Array Value := #[.int .i64 (mxV val l).num, .int .i64 (mxV val l).den]
theorem kf_set {bL : Nat} {W : World} {t : TypeId} {x y : Int} {u v : Value} (h : BoxN ((W.setCell ⟨bL, 0, none⟩ u).setCell ⟨bL, 1, none⟩ v) bL t #[.int .i64 x, .int .i64 y]) : Kf bL W ((W.setCell ⟨bL, 0, none⟩ u).setCell ⟨bL, 1, none⟩ v) := fun _ => by
  have hc : ∀ w, ((W.setCell ⟨bL, 0, none⟩ u).setCell ⟨bL, 1, none⟩ v).cell? ⟨bL, 0, none⟩ = some w → w = .int .i64 x := fun w hw => by rw [h.cell 0] at hw; cases hw; rfl
  refine ⟨(fun w hw g hg => by rw [hc w hw] at hg; cases hg), fun k hk => ?_⟩
  have e : ((W.setCell ⟨bL, 0, none⟩ u).setCell ⟨bL, 1, none⟩ v).heap[k]? = W.heap[k]? := (Below.heap_setCell _ _ _ k hk.ne).trans (Below.heap_setCell _ _ _ k hk.ne)
  obtain ⟨cs, ty, hcs⟩ := hk.cs
  exact ⟨e, ⟨cs, ty, e.trans hcs⟩, hk.ne, (fun w hw e => by rw [hc w hw] at e; cases e)⟩
theorem good_int {W : World} {b : Nat} {t : TypeId} {cs : Array Value} {n : Int} (h : BoxN W b t cs) (h0 : cs[0]? = some (.int .i64 n)) : GoodW b W := fun v hv g hg => by
  rw [h.cell 0, h0] at hv
  cases hv
  cases hg

set_option maxRecDepth 100000 in
set_option maxHeartbeats 8000000 in
theorem great_delay (val : Tk → Option Rat) (hfit : ∀ x, fitO (val x)) (ts : List Pt) (hts : ts.length ≤ 1048576) (T : List Tk) (hT : T.map Tk.n = ticksL ts) (Bt b1 b2 : Nat) (w : World) (A : Option Addr) (capA : Nat) (hBt : BoxN w Bt 44 #[.slice A ts.length capA]) (hP : isP A ts w)
    (HV : ∀ (x : Tk) (W : World), Below w.heap.size w W → Calls Tryz.prog 68 #[.agg #[.int .i64 x.n, .int .i64 1], .pointer (some ⟨b1, 0, none⟩), .pointer (some ⟨b2, 0, none⟩)] W fun e w' => (∃ rv, e = .returned (ratV rv) ∧ RV (val x) rv) ∧ Below W.heap.size W w') :
    CallsIn Fence.wide 9 Tryz.prog 72 #[.agg #[.func (.func 68) #[] #[.pointer (some ⟨b1, 0, none⟩), .pointer (some ⟨b2, 0, none⟩)]], .func (.func 108) #[] #[.pointer (some ⟨Bt, 0, none⟩)]] w fun e w' => e = .returned (ratV (numV (greatO val T))) ∧ Below w.heap.size w w' := by
  have hro : Fence.wide.round = none := rfl
  replace HV := Lib.hid HV
  have HC : Hid (∀ (r s : Rat) (W : World), Fit r → Fit s → CallsIn Fence.wide 6 Tryz.prog 44 #[.agg #[.int .i64 r.num, .int .i64 r.den], .agg #[.int .i64 s.num, .int .i64 s.den]] W fun e w' => e = .returned (.int .i64 (cmpQ r s)) ∧ Below W.heap.size W w') := fun r s W h1 h2 => callsIn_wide.2 ((cmp_r h1 h2 W).mono fun _ _ ⟨h, k⟩ => ⟨h, k.b⟩)
  refine callsIn_of_wp_marks Tryz.func72 rfl trivial ?_ hro
  simp only [Tryz.ntmps72, List.size_toArray, List.length_cons, List.length_nil, Nat.reduceAdd, Nat.reduceSub, Array.replicate_succ, Array.replicate_zero, List.push_toArray, List.append_toArray, List.nil_append, List.cons_append]
  gi_wp2
  have hW0 : Below w.heap.size w ((((w.alloc (.cells #[.func (.func 68) #[] #[.pointer (some ⟨b1, 0, none⟩), .pointer (some ⟨b2, 0, none⟩)]] 113)).alloc (.cells #[.int .i64 0, .int .i64 0] 25)).alloc (.cells #[.int .i64 0] 27)).alloc (.cells #[.int .i64 0, .int .i64 1] 25)) := (((Below.refl _ _).alloc (Nat.le_refl _) _).alloc (by simp) _ |>.alloc (by simp; omega) _).alloc (by simp; omega) _
  have bS : BoxN ((((w.alloc (.cells #[.func (.func 68) #[] #[.pointer (some ⟨b1, 0, none⟩), .pointer (some ⟨b2, 0, none⟩)]] 113)).alloc (.cells #[.int .i64 0, .int .i64 0] 25)).alloc (.cells #[.int .i64 0] 27)).alloc (.cells #[.int .i64 0, .int .i64 1] 25)) w.heap.size 113 #[.func (.func 68) #[] #[.pointer (some ⟨b1, 0, none⟩), .pointer (some ⟨b2, 0, none⟩)]] := (((BoxN.new w _ _).alloc _).alloc _).alloc _
  have b4 : BoxN ((((w.alloc (.cells #[.func (.func 68) #[] #[.pointer (some ⟨b1, 0, none⟩), .pointer (some ⟨b2, 0, none⟩)]] 113)).alloc (.cells #[.int .i64 0, .int .i64 0] 25)).alloc (.cells #[.int .i64 0] 27)).alloc (.cells #[.int .i64 0, .int .i64 1] 25)) (w.heap.size + 1) 25 #[.int .i64 0, .int .i64 0] := by
    have := ((BoxN.new (w.alloc (.cells #[.func (.func 68) #[] #[.pointer (some ⟨b1, 0, none⟩), .pointer (some ⟨b2, 0, none⟩)]] 113)) 25 #[.int .i64 0, .int .i64 0]).alloc (.cells #[.int .i64 0] 27)).alloc (.cells #[.int .i64 0, .int .i64 1] 25)
    rwa [World.size_alloc] at this
  have b5 : BoxN ((((w.alloc (.cells #[.func (.func 68) #[] #[.pointer (some ⟨b1, 0, none⟩), .pointer (some ⟨b2, 0, none⟩)]] 113)).alloc (.cells #[.int .i64 0, .int .i64 0] 25)).alloc (.cells #[.int .i64 0] 27)).alloc (.cells #[.int .i64 0, .int .i64 1] 25)) (w.heap.size + 1 + 1) 27 #[.int .i64 0] := by
    have := (BoxN.new ((w.alloc (.cells #[.func (.func 68) #[] #[.pointer (some ⟨b1, 0, none⟩), .pointer (some ⟨b2, 0, none⟩)]] 113)).alloc (.cells #[.int .i64 0, .int .i64 0] 25)) 27 #[.int .i64 0]).alloc (.cells #[.int .i64 0, .int .i64 1] 25)
    rwa [World.size_alloc, World.size_alloc] at this
  have b6 : BoxN ((((w.alloc (.cells #[.func (.func 68) #[] #[.pointer (some ⟨b1, 0, none⟩), .pointer (some ⟨b2, 0, none⟩)]] 113)).alloc (.cells #[.int .i64 0, .int .i64 0] 25)).alloc (.cells #[.int .i64 0] 27)).alloc (.cells #[.int .i64 0, .int .i64 1] 25)) (w.heap.size + 1 + 1 + 1) 25 #[.int .i64 0, .int .i64 1] := by
    have := BoxN.new (((w.alloc (.cells #[.func (.func 68) #[] #[.pointer (some ⟨b1, 0, none⟩), .pointer (some ⟨b2, 0, none⟩)]] 113)).alloc (.cells #[.int .i64 0, .int .i64 0] 25)).alloc (.cells #[.int .i64 0] 27)) 25 #[.int .i64 0, .int .i64 1]
    rwa [World.size_alloc, World.size_alloc, World.size_alloc] at this
  have hsz : ((((w.alloc (.cells #[.func (.func 68) #[] #[.pointer (some ⟨b1, 0, none⟩), .pointer (some ⟨b2, 0, none⟩)]] 113)).alloc (.cells #[.int .i64 0, .int .i64 0] 25)).alloc (.cells #[.int .i64 0] 27)).alloc (.cells #[.int .i64 0, .int .i64 1] 25)).heap.size = w.heap.size + 4 := by simp
  have hbt0 := hBt.below hW0 hBt.lt
  have hP0 := cl_isP A ts w _ hP hW0
  generalize ((((w.alloc (.cells #[.func (.func 68) #[] #[.pointer (some ⟨b1, 0, none⟩), .pointer (some ⟨b2, 0, none⟩)]] 113)).alloc (.cells #[.int .i64 0, .int .i64 0] 25)).alloc (.cells #[.int .i64 0] 27)).alloc (.cells #[.int .i64 0, .int .i64 1] 25)) = W0 at hW0 bS b4 b5 b6 hsz hbt0 hP0 ⊢
  have hgd := good_int b6 rfl
  clear hBt hP
  refine wpIn_rangeFunc_ownH hro (by decide) (gf := 108) (lb := #[.pointer (some ⟨Bt, 0, none⟩)]) rfl trivial (enters_of Tryz.func108 (by kernel_rfl) rfl)
    (points_stops Tk.n T 8 (by decide) Bt (w.heap.size + 1 + 1 + 1) (w.heap.size + 1 + 1 + 1) ts hts hT W0 (by omega) hgd A capA hbt0 hP0) Kp2.t (Kp2.b (by omega) (by omega)) (Below.refl _ _) (fun _ => rfl)
    (fun pre W => (BoxN W (w.heap.size + 1 + 1 + 1) 25 (mxC val pre) ∧ (∀ x ∈ pre, (val x).isSome = true)) ∧ Below (w.heap.size + 1 + 1 + 1) W0 W)
    (fun c pre W => ((c = .ret ∧ ∃ x ∈ pre, (val x).isSome = false) ∧ (BoxN W (w.heap.size + 1) 25 #[.int .i64 0, .int .i64 0] ∧ BoxN W (w.heap.size + 1 + 1) 27 #[.int .i64 3])) ∧ Below w.heap.size w W)
    (OwnFrom.and (OwnFrom.and (Own.from (boxN_own _ _ (mxC val)) _) (ownFrom_pure _ _)) (ownFrom_below (by omega) (by omega)))
    (fun c => OwnFrom.and (OwnFrom.and (ownFrom_pure _ _) (OwnFrom.and (Own.from (boxN_own _ _ (fun _ : List Tk => #[.int .i64 0, .int .i64 0])) _) (Own.from (boxN_own _ _ (fun _ : List Tk => #[.int .i64 3])) _))) (ownFrom_below (Nat.le_refl _) (by omega)))
    ⟨⟨b6, by simp⟩, Below.refl _ _⟩
    (fun x a' W => ∃ Bx, w.heap.size + 1 + 1 + 1 < Bx ∧ BoxN W Bx 25 #[.int .i64 x.n, .int .i64 1] ∧ a' = { tmps := #[.agg #[.func (.func 68) #[] #[.pointer (some ⟨b1, 0, none⟩), .pointer (some ⟨b2, 0, none⟩)]], .func (.func 108) #[] #[.pointer (some ⟨Bt, 0, none⟩)], .pointer (some ⟨w.heap.size, 0, none⟩), undef, .pointer (some ⟨w.heap.size + 1, 0, none⟩), .pointer (some ⟨w.heap.size + 1 + 1, 0, none⟩), .pointer (some ⟨w.heap.size + 1 + 1 + 1, 0, none⟩), .pointer (some ⟨Bx, 0, none⟩), undef, undef, .agg #[.int .i64 0, .int .i64 1], .func (.func 108) #[] #[.pointer (some ⟨Bt, 0, none⟩)], .agg #[.int .i64 x.n, .int .i64 1], undef, undef, undef, undef, undef, undef, undef, undef, undef, undef, undef, undef, undef, undef, undef, undef, undef], defers := [] })
    (fun x a' _ X Y row hs hg hr => by obtain ⟨Bx, h1, h2, h4⟩ := hs; exact ⟨Bx, h1, boxN_own Bx 25 (fun (_ : Unit) => #[.int .i64 x.n, .int .i64 1]) () X Y row h2 hg (fun r e => (hr r e).2), h4⟩)
    ?assign ?body ?done ?stop
  case assign =>
    rintro l pre x W K ⟨⟨hm, hok⟩, hB⟩ hK
    gi_wp2
    have hx1 : Below W.heap.size W (W.alloc (.cells #[.int .i64 x.n, .int .i64 1] 25)) := (Below.refl _ _).alloc (Nat.le_refl _) _
    have hWz := hB.size
    exact hK _ _ (keepsFrom_below hx1) ⟨hx1.mono (by omega), Kf.below hx1 (by omega)⟩ ⟨⟨hm.alloc _, hok⟩, hB.trans (hx1.mono (by omega))⟩
      ⟨W.heap.size, by omega, BoxN.new W _ _, rfl⟩
  case body =>
    rintro l pre x a' W hl ⟨r, hr⟩ ⟨⟨hm, hok⟩, hB⟩ ⟨Bx, hBx, bX, rfl⟩ hlt
    have hWz := hB.size
    have x0 := bX.cell 0
    have x1 := bX.cell 1
    have s0 := (bS.below hB (by omega)).cell 0
    have kX := bX.lt
    have hBw : Below w.heap.size w W := hW0.trans (hB.mono (by omega))
    have hVx := HV.out x W hBw
    have hfm := mxV_fit hfit pre
    have hfx := hfit x
    cases hvx : val x with
    | none =>
      rw [hvx] at hVx
      have hVx2 : CallsIn Fence.wide 6 Tryz.prog 68 #[.agg #[.int .i64 x.n, .int .i64 1], .pointer (some ⟨b1, 0, none⟩), .pointer (some ⟨b2, 0, none⟩)] W fun e w' => (∃ p q : Int, e = .returned (.tuple #[.agg #[.int .i64 p, .int .i64 q], .int .i64 3])) ∧ Below W.heap.size W w' :=
        callsIn_wide.2 (hVx.mono fun e w' ⟨⟨rv, h1, h2⟩, h3⟩ => ⟨⟨rv.1, rv.2.1, by obtain ⟨p, q, z⟩ := rv; obtain rfl : z = 3 := h2; exact h1⟩, h3⟩)
      replace hVx2 := Lib.hid hVx2
      have hnn : Hid ((val x).isSome = false) := by unfold Hid; rw [hvx]; rfl
      clear hVx hvx hfx
      gi_wp2_with fail
      refine ⟨trivial, ?_⟩
      (with_reducible refine (CallsIn.inRound l hVx2.out).mono ?_); rintro e w5 ⟨⟨pp, qq, rfl⟩, hb5⟩
      have q4 := (b4.below hB (by omega)).below hb5 (by omega)
      have q5 := (b5.below hB (by omega)).below hb5 (by omega)
      have f4 := q4.frozen 0
      have f4' := q4.frozen 1
      have f5 := q5.frozen 0
      have c4 := q4.cell 0
      have c4' := q4.cell 1
      have c5 := q5.cell 0
      have k4 := q4.lt
      have k5 := q5.lt
      have hB5 : Below w.heap.size w w5 := hBw.trans (hb5.mono hBw.size)
      clear x0 x1 s0 hm
      gi_wp2
      refine ⟨?_, ⟨⟨rfl, x, by simp, hnn.out⟩, ?_, ?_⟩, ?_⟩
      · exact (keepsFrom_below hb5).trans (((((KeepsOthers.setCell _ _ _).trans (KeepsOthers.setCell _ _ _)).trans (KeepsOthers.setCell _ _ _)).trans (KeepsOthers.alloc _ _)).from _)
      · exact ((q4.set2 (.int .i64 0) (.int .i64 0)).far (p := ⟨w.heap.size + 1 + 1, 0, none⟩) (by simp) (.int .i64 3)).alloc _
      · exact (((q5.far (p := ⟨w.heap.size + 1, 0, none⟩) (by simp) (.int .i64 0)).far (p := ⟨w.heap.size + 1, 1, none⟩) (by simp) (.int .i64 0)).set1 0 (.int .i64 3)).alloc _
      · exact (((hB5.setCell (p := ⟨w.heap.size + 1, 0, none⟩) (by simp) _).setCell (p := ⟨w.heap.size + 1, 1, none⟩) (by simp) _).setCell (p := ⟨w.heap.size + 1 + 1, 0, none⟩) (by simp; omega) _).alloc (by have := hB5.size; simp [World.setCell]; omega) _
    | some v =>
      have hfv : Fit v := hfx v hvx
      rw [hvx] at hVx
      have hVx2 : CallsIn Fence.wide 6 Tryz.prog 68 #[.agg #[.int .i64 x.n, .int .i64 1], .pointer (some ⟨b1, 0, none⟩), .pointer (some ⟨b2, 0, none⟩)] W fun e w' => e = .returned (.tuple #[.agg #[.int .i64 v.num, .int .i64 v.den], .int .i64 0]) ∧ Below W.heap.size W w' :=
        callsIn_wide.2 (hVx.mono fun e w' ⟨⟨rv, h1, h2⟩, h3⟩ => ⟨by rw [h1, show rv = _ from h2]; rfl, h3⟩)
      have HCx : ∀ W : World, _ := fun W => HC.out v (mxV val pre) W hfv hfm
      have hcq := @Ref.cmpQ_pos v (mxV val pre)
      obtain ⟨cq, hcqe⟩ : ∃ cq, cmpQ v (mxV val pre) = cq := ⟨_, rfl⟩
      rw [hcqe] at HCx hcq
      have hst : Hid (mxV val (pre ++ [x]) = if mxV val pre < v then v else mxV val pre) := by unfold Hid; rw [mxV_snoc]; unfold mxStep; rw [hvx]; rfl
      have hall : Hid (∀ y ∈ pre ++ [x], (val y).isSome = true) := fun y hy => by
        rcases List.mem_append.1 hy with h | h
        · exact hok y h
        · simp at h; subst h; rw [hvx]; rfl
      unfold mxC at hm
      obtain ⟨m, hme⟩ : ∃ m, mxV val pre = m := ⟨_, rfl⟩
      rw [hme] at HCx hcq hst hm
      obtain ⟨vn, hvn⟩ : ∃ vn, v.num = vn := ⟨_, rfl⟩
      obtain ⟨vd, hvd⟩ : ∃ vd : Int, (v.den : Int) = vd := ⟨_, rfl⟩
      obtain ⟨mn, hmn⟩ : ∃ mn, m.num = mn := ⟨_, rfl⟩
      obtain ⟨md, hmd⟩ : ∃ md : Int, (m.den : Int) = md := ⟨_, rfl⟩
      rw [hvn, hvd] at hVx2
      rw [hvn, hvd, hmn, hmd] at HCx
      rw [hmn, hmd] at hm
      replace hVx2 := Lib.hid hVx2
      replace HCx := Lib.hid HCx
      have Hnums := Lib.hid (show (v.num = vn ∧ (v.den : Int) = vd) ∧ (m.num = mn ∧ (m.den : Int) = md) from ⟨⟨hvn, hvd⟩, hmn, hmd⟩)
      replace hcq := Lib.hid hcq
      clear hVx hvx hfx hcqe hme hvn hvd hmn hmd hok hfm hfv
      gi_wp2_with fail
      refine ⟨trivial, ?_⟩
      (with_reducible refine (CallsIn.inRound l hVx2.out).mono ?_); rintro e w5 ⟨rfl, hb5⟩
      have hz5 := hb5.size
      have q6 := hm.below hb5 hm.lt
      have q6a := q6.alloc (.cells #[.int .i64 vn, .int .i64 vd] 25)
      have bV := BoxN.new w5 25 #[.int .i64 vn, .int .i64 vd]
      have g0 := q6a.cell 0
      have g1 := q6a.cell 1
      have kz := q6.lt
      have hA5 : Below W.heap.size W (w5.alloc (.cells #[.int .i64 vn, .int .i64 vd] 25)) := hb5.alloc hb5.size _
      clear x0 x1 s0
      gi_wp2_with fail
      refine ⟨trivial, ?_⟩
      (with_reducible refine (CallsIn.inRound l (HCx.out _)).mono ?_); rintro e w6 ⟨rfl, hb6⟩
      have r6 := q6a.below hb6 q6a.lt
      have rV := bV.below hb6 bV.lt
      have y0 := r6.cell 0
      have y1 := r6.cell 1
      have v0 := rV.cell 0
      have v1 := rV.cell 1
      have e0 := r6.frozen 0
      have e1 := r6.frozen 1
      have k6 := r6.lt
      have kV := rV.lt
      have hA6 : Below W.heap.size W w6 := hA5.trans (hb6.mono hA5.size)
      clear g0 g1 hb5 hb6 q6 q6a bV hA5 hm
      by_cases hq : 0 < cq
      · have hlt2 : Hid (m < v) := hcq.out.1 hq
        gi_wp2
        have hs6 := r6.set2 (.int .i64 vn) (.int .i64 vd)
        have hBm : Below (w.heap.size + 1 + 1 + 1) w6 ((w6.setCell ⟨w.heap.size + 1 + 1 + 1, 0, none⟩ (.int .i64 vn)).setCell ⟨w.heap.size + 1 + 1 + 1, 1, none⟩ (.int .i64 vd)) := ((Below.refl _ _).setCell (p := ⟨w.heap.size + 1 + 1 + 1, 0, none⟩) (Nat.le_refl _) _).setCell (p := ⟨w.heap.size + 1 + 1 + 1, 1, none⟩) (Nat.le_refl _) _
        have hBW := (hA6.mono (show w.heap.size + 1 + 1 + 1 ≤ W.heap.size by omega)).trans hBm
        refine ⟨(keepsFrom_below hA6).trans (((KeepsOthers.setCell _ _ _).trans (KeepsOthers.setCell _ _ _)).from _), ⟨hBW, (Kf.below hA6 (by omega)).trans (kf_set hs6)⟩, ⟨?_, hall.out⟩, hB.trans hBW⟩
        unfold mxC
        rw [hst.out, if_pos hlt2.out, Hnums.out.1.1, Hnums.out.1.2]
        exact hs6
      · have hlt2 : Hid (¬ m < v) := fun h => hq (hcq.out.2 h)
        have hqf : decide (0 < cq) = false := by simp; omega
        gi_wp2
        have hBW := hA6.mono (show w.heap.size + 1 + 1 + 1 ≤ W.heap.size by omega)
        refine ⟨keepsFrom_below hA6, ⟨hBW, Kf.below hA6 (by omega)⟩, ⟨?_, hall.out⟩, hB.trans hBW⟩
        unfold mxC
        rw [hst.out, if_neg hlt2.out, Hnums.out.2.1, Hnums.out.2.2]
        exact r6
  case done =>
    rintro D ys W hD rfl ⟨⟨hm, hok⟩, hB⟩ hK
    have hWz := hB.size
    have q4 := b4.below hB (by omega)
    have q5 := b5.below hB (by omega)
    have hBw : Below w.heap.size w W := hW0.trans (hB.mono (by omega))
    have hres : Hid (greatO val ys = some (mxV val ys)) := if_pos hok
    unfold mxC at hm
    obtain ⟨mn, hmn⟩ : ∃ mn, (mxV val ys).num = mn := ⟨_, rfl⟩
    obtain ⟨md, hmd⟩ : ∃ md : Int, ((mxV val ys).den : Int) = md := ⟨_, rfl⟩
    rw [hmn, hmd] at hm
    have hv : Hid (numV (greatO val ys) = (mn, md, 0)) := by unfold Hid; rw [hres.out]; show ((mxV val ys).num, ((mxV val ys).den : Int), (0 : Int)) = _; rw [hmn, hmd]
    have m0 := hm.cell 0
    have m1 := hm.cell 1
    have k6 := hm.lt
    have f4 := q4.frozen 0
    have f4' := q4.frozen 1
    have f5 := q5.frozen 0
    have c4 := q4.cell 0
    have c4' := q4.cell 1
    have c5 := q5.cell 0
    have k4 := q4.lt
    have k5 := q5.lt
    have hKs : (((W.setCell ⟨w.heap.size + 1, 0, none⟩ (.int .i64 mn)).setCell ⟨w.heap.size + 1, 1, none⟩ (.int .i64 md)).setCell ⟨w.heap.size + 1 + 1, 0, none⟩ (.int .i64 0)).heap[D]? = some (.deferred (some [])) :=
      (Below.heap_setCell _ _ _ D (by simp; omega)).trans ((Below.heap_setCell _ _ _ D (by simp; omega)).trans ((Below.heap_setCell _ _ _ D (by simp; omega)).trans hK))
    have p4 := (q4.set2 (.int .i64 mn) (.int .i64 md)).far (p := ⟨w.heap.size + 1 + 1, 0, none⟩) (by simp) (.int .i64 0)
    have p5 := ((q5.far (p := ⟨w.heap.size + 1, 0, none⟩) (by simp) (.int .i64 mn)).far (p := ⟨w.heap.size + 1, 1, none⟩) (by simp) (.int .i64 md)).set1 0 (.int .i64 0)
    have s4 := Lib.hid ((cell_same (World.putObj_heap_other (w := ((W.setCell ⟨w.heap.size + 1, 0, none⟩ (.int .i64 mn)).setCell ⟨w.heap.size + 1, 1, none⟩ (.int .i64 md)).setCell ⟨w.heap.size + 1 + 1, 0, none⟩ (.int .i64 0)) (o := .deferred none) (show w.heap.size + 1 ≠ D by omega)) 0).trans (p4.cell 0))
    have s4' := Lib.hid ((cell_same (World.putObj_heap_other (w := ((W.setCell ⟨w.heap.size + 1, 0, none⟩ (.int .i64 mn)).setCell ⟨w.heap.size + 1, 1, none⟩ (.int .i64 md)).setCell ⟨w.heap.size + 1 + 1, 0, none⟩ (.int .i64 0)) (o := .deferred none) (show w.heap.size + 1 ≠ D by omega)) 1).trans (p4.cell 1))
    have s5 := Lib.hid ((cell_same (World.putObj_heap_other (w := ((W.setCell ⟨w.heap.size + 1, 0, none⟩ (.int .i64 mn)).setCell ⟨w.heap.size + 1, 1, none⟩ (.int .i64 md)).setCell ⟨w.heap.size + 1 + 1, 0, none⟩ (.int .i64 0)) (o := .deferred none) (show w.heap.size + 1 + 1 ≠ D by omega)) 0).trans (p5.cell 0))
    have HKs := Lib.hid hKs
    clear hKs p4 p5 hm hok hmn hmd
    gi_wp2
    refine ⟨by simp, .inl ⟨_, _, rfl, run_takeDeferred HKs.out, ?_⟩⟩
    refine ⟨ratV (mn, md, 0), by simp [results, Tryz.f72, go_sem, ratV, s4.out, s4'.out, s5.out], by rw [hv.out], ?_⟩
    exact (((hBw.setCell (p := ⟨w.heap.size + 1, 0, none⟩) (by simp) _).setCell (p := ⟨w.heap.size + 1, 1, none⟩) (by simp) _).setCell (p := ⟨w.heap.size + 1 + 1, 0, none⟩) (by simp; omega) _).trans (belowK_b (w := w) (Nat.le_refl _) _ D _ _ (by omega) HKs.out rfl rfl)
  case stop =>
    rintro D c pre W hD hpre ⟨⟨⟨rfl, x, hx, hn⟩, q4, q5⟩, hB⟩ hK
    have hno : numV (greatO val T) = (0, 0, 3) := by
      unfold greatO
      rw [if_neg (fun h => by rw [h x (hpre.subset hx)] at hn; cases hn)]
      rfl
    have r4 : (W.putObj D (.deferred none)).cell? ⟨w.heap.size + 1, 0, none⟩ = some (.int .i64 0) := (cell_same (World.putObj_heap_other (by omega)) 0).trans (q4.cell 0)
    have r4' : (W.putObj D (.deferred none)).cell? ⟨w.heap.size + 1, 1, none⟩ = some (.int .i64 0) := (cell_same (World.putObj_heap_other (by omega)) 1).trans (q4.cell 1)
    have r5 : (W.putObj D (.deferred none)).cell? ⟨w.heap.size + 1 + 1, 0, none⟩ = some (.int .i64 3) := (cell_same (World.putObj_heap_other (by omega)) 0).trans (q5.cell 0)
    gi_wp2
    refine ⟨by simp, .inl ⟨_, _, rfl, run_takeDeferred hK, ?_⟩⟩
    refine ⟨ratV (0, 0, 3), by simp [results, Tryz.f72, go_sem, ratV, r4, r4', r5], by rw [hno], ?_⟩
    exact hB.trans (belowK_b (w := w) (Nat.le_refl _) W D _ _ (by omega) hK rfl rfl)

set_option maxRecDepth 100000 in
set_option maxHeartbeats 8000000 in
theorem great_backlog (val : Tk → Option Rat) (hfit : ∀ x, fitO (val x)) (ts : List Pt) (hts : ts.length ≤ 1048576) (T : List Tk) (hT : T.map Tk.n = ticksL ts) (Bt b1 b2 : Nat) (w : World) (A : Option Addr) (capA : Nat) (hBt : BoxN w Bt 44 #[.slice A ts.length capA]) (hP : isP A ts w)
    (HV : ∀ (x : Tk) (W : World), Below w.heap.size w W → Calls Tryz.prog 76 #[.agg #[.int .i64 x.n, .int .i64 1], .pointer (some ⟨b1, 0, none⟩), .pointer (some ⟨b2, 0, none⟩)] W fun e w' => (∃ rv, e = .returned (ratV rv) ∧ RV (val x) rv) ∧ Below W.heap.size W w') :
    CallsIn Fence.wide 9 Tryz.prog 72 #[.agg #[.func (.func 76) #[] #[.pointer (some ⟨b1, 0, none⟩), .pointer (some ⟨b2, 0, none⟩)]], .func (.func 108) #[] #[.pointer (some ⟨Bt, 0, none⟩)]] w fun e w' => e = .returned (ratV (numV (greatO val T))) ∧ Below w.heap.size w w' := by
  have hro : Fence.wide.round = none := rfl
  replace HV := Lib.hid HV
  have HC : Hid (∀ (r s : Rat) (W : World), Fit r → Fit s → CallsIn Fence.wide 6 Tryz.prog 44 #[.agg #[.int .i64 r.num, .int .i64 r.den], .agg #[.int .i64 s.num, .int .i64 s.den]] W fun e w' => e = .returned (.int .i64 (cmpQ r s)) ∧ Below W.heap.size W w') := fun r s W h1 h2 => callsIn_wide.2 ((cmp_r h1 h2 W).mono fun _ _ ⟨h, k⟩ => ⟨h, k.b⟩)
  refine callsIn_of_wp_marks Tryz.func72 rfl trivial ?_ hro
  simp only [Tryz.ntmps72, List.size_toArray, List.length_cons, List.length_nil, Nat.reduceAdd, Nat.reduceSub, Array.replicate_succ, Array.replicate_zero, List.push_toArray, List.append_toArray, List.nil_append, List.cons_append]
  gi_wp2
  have hW0 : Below w.heap.size w ((((w.alloc (.cells #[.func (.func 76) #[] #[.pointer (some ⟨b1, 0, none⟩), .pointer (some ⟨b2, 0, none⟩)]] 113)).alloc (.cells #[.int .i64 0, .int .i64 0] 25)).alloc (.cells #[.int .i64 0] 27)).alloc (.cells #[.int .i64 0, .int .i64 1] 25)) := (((Below.refl _ _).alloc (Nat.le_refl _) _).alloc (by simp) _ |>.alloc (by simp; omega) _).alloc (by simp; omega) _
  have bS : BoxN ((((w.alloc (.cells #[.func (.func 76) #[] #[.pointer (some ⟨b1, 0, none⟩), .pointer (some ⟨b2, 0, none⟩)]] 113)).alloc (.cells #[.int .i64 0, .int .i64 0] 25)).alloc (.cells #[.int .i64 0] 27)).alloc (.cells #[.int .i64 0, .int .i64 1] 25)) w.heap.size 113 #[.func (.func 76) #[] #[.pointer (some ⟨b1, 0, none⟩), .pointer (some ⟨b2, 0, none⟩)]] := (((BoxN.new w _ _).alloc _).alloc _).alloc _
  have b4 : BoxN ((((w.alloc (.cells #[.func (.func 76) #[] #[.pointer (some ⟨b1, 0, none⟩), .pointer (some ⟨b2, 0, none⟩)]] 113)).alloc (.cells #[.int .i64 0, .int .i64 0] 25)).alloc (.cells #[.int .i64 0] 27)).alloc (.cells #[.int .i64 0, .int .i64 1] 25)) (w.heap.size + 1) 25 #[.int .i64 0, .int .i64 0] := by
    have := ((BoxN.new (w.alloc (.cells #[.func (.func 76) #[] #[.pointer (some ⟨b1, 0, none⟩), .pointer (some ⟨b2, 0, none⟩)]] 113)) 25 #[.int .i64 0, .int .i64 0]).alloc (.cells #[.int .i64 0] 27)).alloc (.cells #[.int .i64 0, .int .i64 1] 25)
    rwa [World.size_alloc] at this
  have b5 : BoxN ((((w.alloc (.cells #[.func (.func 76) #[] #[.pointer (some ⟨b1, 0, none⟩), .pointer (some ⟨b2, 0, none⟩)]] 113)).alloc (.cells #[.int .i64 0, .int .i64 0] 25)).alloc (.cells #[.int .i64 0] 27)).alloc (.cells #[.int .i64 0, .int .i64 1] 25)) (w.heap.size + 1 + 1) 27 #[.int .i64 0] := by
    have := (BoxN.new ((w.alloc (.cells #[.func (.func 76) #[] #[.pointer (some ⟨b1, 0, none⟩), .pointer (some ⟨b2, 0, none⟩)]] 113)).alloc (.cells #[.int .i64 0, .int .i64 0] 25)) 27 #[.int .i64 0]).alloc (.cells #[.int .i64 0, .int .i64 1] 25)
    rwa [World.size_alloc, World.size_alloc] at this
  have b6 : BoxN ((((w.alloc (.cells #[.func (.func 76) #[] #[.pointer (some ⟨b1, 0, none⟩), .pointer (some ⟨b2, 0, none⟩)]] 113)).alloc (.cells #[.int .i64 0, .int .i64 0] 25)).alloc (.cells #[.int .i64 0] 27)).alloc (.cells #[.int .i64 0, .int .i64 1] 25)) (w.heap.size + 1 + 1 + 1) 25 #[.int .i64 0, .int .i64 1] := by
    have := BoxN.new (((w.alloc (.cells #[.func (.func 76) #[] #[.pointer (some ⟨b1, 0, none⟩), .pointer (some ⟨b2, 0, none⟩)]] 113)).alloc (.cells #[.int .i64 0, .int .i64 0] 25)).alloc (.cells #[.int .i64 0] 27)) 25 #[.int .i64 0, .int .i64 1]
    rwa [World.size_alloc, World.size_alloc, World.size_alloc] at this
  have hsz : ((((w.alloc (.cells #[.func (.func 76) #[] #[.pointer (some ⟨b1, 0, none⟩), .pointer (some ⟨b2, 0, none⟩)]] 113)).alloc (.cells #[.int .i64 0, .int .i64 0] 25)).alloc (.cells #[.int .i64 0] 27)).alloc (.cells #[.int .i64 0, .int .i64 1] 25)).heap.size = w.heap.size + 4 := by simp
  have hbt0 := hBt.below hW0 hBt.lt
  have hP0 := cl_isP A ts w _ hP hW0
  generalize ((((w.alloc (.cells #[.func (.func 76) #[] #[.pointer (some ⟨b1, 0, none⟩), .pointer (some ⟨b2, 0, none⟩)]] 113)).alloc (.cells #[.int .i64 0, .int .i64 0] 25)).alloc (.cells #[.int .i64 0] 27)).alloc (.cells #[.int .i64 0, .int .i64 1] 25)) = W0 at hW0 bS b4 b5 b6 hsz hbt0 hP0 ⊢
  have hgd := good_int b6 rfl
  clear hBt hP
  refine wpIn_rangeFunc_ownH hro (by decide) (gf := 108) (lb := #[.pointer (some ⟨Bt, 0, none⟩)]) rfl trivial (enters_of Tryz.func108 (by kernel_rfl) rfl)
    (points_stops Tk.n T 8 (by decide) Bt (w.heap.size + 1 + 1 + 1) (w.heap.size + 1 + 1 + 1) ts hts hT W0 (by omega) hgd A capA hbt0 hP0) Kp2.t (Kp2.b (by omega) (by omega)) (Below.refl _ _) (fun _ => rfl)
    (fun pre W => (BoxN W (w.heap.size + 1 + 1 + 1) 25 (mxC val pre) ∧ (∀ x ∈ pre, (val x).isSome = true)) ∧ Below (w.heap.size + 1 + 1 + 1) W0 W)
    (fun c pre W => ((c = .ret ∧ ∃ x ∈ pre, (val x).isSome = false) ∧ (BoxN W (w.heap.size + 1) 25 #[.int .i64 0, .int .i64 0] ∧ BoxN W (w.heap.size + 1 + 1) 27 #[.int .i64 3])) ∧ Below w.heap.size w W)
    (OwnFrom.and (OwnFrom.and (Own.from (boxN_own _ _ (mxC val)) _) (ownFrom_pure _ _)) (ownFrom_below (by omega) (by omega)))
    (fun c => OwnFrom.and (OwnFrom.and (ownFrom_pure _ _) (OwnFrom.and (Own.from (boxN_own _ _ (fun _ : List Tk => #[.int .i64 0, .int .i64 0])) _) (Own.from (boxN_own _ _ (fun _ : List Tk => #[.int .i64 3])) _))) (ownFrom_below (Nat.le_refl _) (by omega)))
    ⟨⟨b6, by simp⟩, Below.refl _ _⟩
    (fun x a' W => ∃ Bx, w.heap.size + 1 + 1 + 1 < Bx ∧ BoxN W Bx 25 #[.int .i64 x.n, .int .i64 1] ∧ a' = { tmps := #[.agg #[.func (.func 76) #[] #[.pointer (some ⟨b1, 0, none⟩), .pointer (some ⟨b2, 0, none⟩)]], .func (.func 108) #[] #[.pointer (some ⟨Bt, 0, none⟩)], .pointer (some ⟨w.heap.size, 0, none⟩), undef, .pointer (some ⟨w.heap.size + 1, 0, none⟩), .pointer (some ⟨w.heap.size + 1 + 1, 0, none⟩), .pointer (some ⟨w.heap.size + 1 + 1 + 1, 0, none⟩), .pointer (some ⟨Bx, 0, none⟩), undef, undef, .agg #[.int .i64 0, .int .i64 1], .func (.func 108) #[] #[.pointer (some ⟨Bt, 0, none⟩)], .agg #[.int .i64 x.n, .int .i64 1], undef, undef, undef, undef, undef, undef, undef, undef, undef, undef, undef, undef, undef, undef, undef, undef, undef], defers := [] })
    (fun x a' _ X Y row hs hg hr => by obtain ⟨Bx, h1, h2, h4⟩ := hs; exact ⟨Bx, h1, boxN_own Bx 25 (fun (_ : Unit) => #[.int .i64 x.n, .int .i64 1]) () X Y row h2 hg (fun r e => (hr r e).2), h4⟩)
    ?assign ?body ?done ?stop
  case assign =>
    rintro l pre x W K ⟨⟨hm, hok⟩, hB⟩ hK
    gi_wp2
    have hx1 : Below W.heap.size W (W.alloc (.cells #[.int .i64 x.n, .int .i64 1] 25)) := (Below.refl _ _).alloc (Nat.le_refl _) _
    have hWz := hB.size
    exact hK _ _ (keepsFrom_below hx1) ⟨hx1.mono (by omega), Kf.below hx1 (by omega)⟩ ⟨⟨hm.alloc _, hok⟩, hB.trans (hx1.mono (by omega))⟩
      ⟨W.heap.size, by omega, BoxN.new W _ _, rfl⟩
  case body =>
    rintro l pre x a' W hl ⟨r, hr⟩ ⟨⟨hm, hok⟩, hB⟩ ⟨Bx, hBx, bX, rfl⟩ hlt
    have hWz := hB.size
    have x0 := bX.cell 0
    have x1 := bX.cell 1
    have s0 := (bS.below hB (by omega)).cell 0
    have kX := bX.lt
    have hBw : Below w.heap.size w W := hW0.trans (hB.mono (by omega))
    have hVx := HV.out x W hBw
    have hfm := mxV_fit hfit pre
    have hfx := hfit x
    cases hvx : val x with
    | none =>
      rw [hvx] at hVx
      have hVx2 : CallsIn Fence.wide 6 Tryz.prog 76 #[.agg #[.int .i64 x.n, .int .i64 1], .pointer (some ⟨b1, 0, none⟩), .pointer (some ⟨b2, 0, none⟩)] W fun e w' => (∃ p q : Int, e = .returned (.tuple #[.agg #[.int .i64 p, .int .i64 q], .int .i64 3])) ∧ Below W.heap.size W w' :=
        callsIn_wide.2 (hVx.mono fun e w' ⟨⟨rv, h1, h2⟩, h3⟩ => ⟨⟨rv.1, rv.2.1, by obtain ⟨p, q, z⟩ := rv; obtain rfl : z = 3 := h2; exact h1⟩, h3⟩)
      replace hVx2 := Lib.hid hVx2
      have hnn : Hid ((val x).isSome = false) := by unfold Hid; rw [hvx]; rfl
      clear hVx hvx hfx
      gi_wp2_with fail
      refine ⟨trivial, ?_⟩
      (with_reducible refine (CallsIn.inRound l hVx2.out).mono ?_); rintro e w5 ⟨⟨pp, qq, rfl⟩, hb5⟩
      have q4 := (b4.below hB (by omega)).below hb5 (by omega)
      have q5 := (b5.below hB (by omega)).below hb5 (by omega)
      have f4 := q4.frozen 0
      have f4' := q4.frozen 1
      have f5 := q5.frozen 0
      have c4 := q4.cell 0
      have c4' := q4.cell 1
      have c5 := q5.cell 0
      have k4 := q4.lt
      have k5 := q5.lt
      have hB5 : Below w.heap.size w w5 := hBw.trans (hb5.mono hBw.size)
      clear x0 x1 s0 hm
      gi_wp2
      refine ⟨?_, ⟨⟨rfl, x, by simp, hnn.out⟩, ?_, ?_⟩, ?_⟩
      · exact (keepsFrom_below hb5).trans (((((KeepsOthers.setCell _ _ _).trans (KeepsOthers.setCell _ _ _)).trans (KeepsOthers.setCell _ _ _)).trans (KeepsOthers.alloc _ _)).from _)
      · exact ((q4.set2 (.int .i64 0) (.int .i64 0)).far (p := ⟨w.heap.size + 1 + 1, 0, none⟩) (by simp) (.int .i64 3)).alloc _
      · exact (((q5.far (p := ⟨w.heap.size + 1, 0, none⟩) (by simp) (.int .i64 0)).far (p := ⟨w.heap.size + 1, 1, none⟩) (by simp) (.int .i64 0)).set1 0 (.int .i64 3)).alloc _
      · exact (((hB5.setCell (p := ⟨w.heap.size + 1, 0, none⟩) (by simp) _).setCell (p := ⟨w.heap.size + 1, 1, none⟩) (by simp) _).setCell (p := ⟨w.heap.size + 1 + 1, 0, none⟩) (by simp; omega) _).alloc (by have := hB5.size; simp [World.setCell]; omega) _
    | some v =>
      have hfv : Fit v := hfx v hvx
      rw [hvx] at hVx
      have hVx2 : CallsIn Fence.wide 6 Tryz.prog 76 #[.agg #[.int .i64 x.n, .int .i64 1], .pointer (some ⟨b1, 0, none⟩), .pointer (some ⟨b2, 0, none⟩)] W fun e w' => e = .returned (.tuple #[.agg #[.int .i64 v.num, .int .i64 v.den], .int .i64 0]) ∧ Below W.heap.size W w' :=
        callsIn_wide.2 (hVx.mono fun e w' ⟨⟨rv, h1, h2⟩, h3⟩ => ⟨by rw [h1, show rv = _ from h2]; rfl, h3⟩)
      have HCx : ∀ W : World, _ := fun W => HC.out v (mxV val pre) W hfv hfm
      have hcq := @Ref.cmpQ_pos v (mxV val pre)
      obtain ⟨cq, hcqe⟩ : ∃ cq, cmpQ v (mxV val pre) = cq := ⟨_, rfl⟩
      rw [hcqe] at HCx hcq
      have hst : Hid (mxV val (pre ++ [x]) = if mxV val pre < v then v else mxV val pre) := by unfold Hid; rw [mxV_snoc]; unfold mxStep; rw [hvx]; rfl
      have hall : Hid (∀ y ∈ pre ++ [x], (val y).isSome = true) := fun y hy => by
        rcases List.mem_append.1 hy with h | h
        · exact hok y h
        · simp at h; subst h; rw [hvx]; rfl
      unfold mxC at hm
      obtain ⟨m, hme⟩ : ∃ m, mxV val pre = m := ⟨_, rfl⟩
      rw [hme] at HCx hcq hst hm
      obtain ⟨vn, hvn⟩ : ∃ vn, v.num = vn := ⟨_, rfl⟩
      obtain ⟨vd, hvd⟩ : ∃ vd : Int, (v.den : Int) = vd := ⟨_, rfl⟩
      obtain ⟨mn, hmn⟩ : ∃ mn, m.num = mn := ⟨_, rfl⟩
      obtain ⟨md, hmd⟩ : ∃ md : Int, (m.den : Int) = md := ⟨_, rfl⟩
      rw [hvn, hvd] at hVx2
      rw [hvn, hvd, hmn, hmd] at HCx
      rw [hmn, hmd] at hm
      replace hVx2 := Lib.hid hVx2
      replace HCx := Lib.hid HCx
      have Hnums := Lib.hid (show (v.num = vn ∧ (v.den : Int) = vd) ∧ (m.num = mn ∧ (m.den : Int) = md) from ⟨⟨hvn, hvd⟩, hmn, hmd⟩)
      replace hcq := Lib.hid hcq
      clear hVx hvx hfx hcqe hme hvn hvd hmn hmd hok hfm hfv
      gi_wp2_with fail
      refine ⟨trivial, ?_⟩
      (with_reducible refine (CallsIn.inRound l hVx2.out).mono ?_); rintro e w5 ⟨rfl, hb5⟩
      have hz5 := hb5.size
      have q6 := hm.below hb5 hm.lt
      have q6a := q6.alloc (.cells #[.int .i64 vn, .int .i64 vd] 25)
      have bV := BoxN.new w5 25 #[.int .i64 vn, .int .i64 vd]
      have g0 := q6a.cell 0
      have g1 := q6a.cell 1
      have kz := q6.lt
      have hA5 : Below W.heap.size W (w5.alloc (.cells #[.int .i64 vn, .int .i64 vd] 25)) := hb5.alloc hb5.size _
      clear x0 x1 s0
      gi_wp2_with fail
      refine ⟨trivial, ?_⟩
      (with_reducible refine (CallsIn.inRound l (HCx.out _)).mono ?_); rintro e w6 ⟨rfl, hb6⟩
      have r6 := q6a.below hb6 q6a.lt
      have rV := bV.below hb6 bV.lt
      have y0 := r6.cell 0
      have y1 := r6.cell 1
      have v0 := rV.cell 0
      have v1 := rV.cell 1
      have e0 := r6.frozen 0
      have e1 := r6.frozen 1
      have k6 := r6.lt
      have kV := rV.lt
      have hA6 : Below W.heap.size W w6 := hA5.trans (hb6.mono hA5.size)
      clear g0 g1 hb5 hb6 q6 q6a bV hA5 hm
      by_cases hq : 0 < cq
      · have hlt2 : Hid (m < v) := hcq.out.1 hq
        gi_wp2
        have hs6 := r6.set2 (.int .i64 vn) (.int .i64 vd)
        have hBm : Below (w.heap.size + 1 + 1 + 1) w6 ((w6.setCell ⟨w.heap.size + 1 + 1 + 1, 0, none⟩ (.int .i64 vn)).setCell ⟨w.heap.size + 1 + 1 + 1, 1, none⟩ (.int .i64 vd)) := ((Below.refl _ _).setCell (p := ⟨w.heap.size + 1 + 1 + 1, 0, none⟩) (Nat.le_refl _) _).setCell (p := ⟨w.heap.size + 1 + 1 + 1, 1, none⟩) (Nat.le_refl _) _
        have hBW := (hA6.mono (show w.heap.size + 1 + 1 + 1 ≤ W.heap.size by omega)).trans hBm
        refine ⟨(keepsFrom_below hA6).trans (((KeepsOthers.setCell _ _ _).trans (KeepsOthers.setCell _ _ _)).from _), ⟨hBW, (Kf.below hA6 (by omega)).trans (kf_set hs6)⟩, ⟨?_, hall.out⟩, hB.trans hBW⟩
        unfold mxC
        rw [hst.out, if_pos hlt2.out, Hnums.out.1.1, Hnums.out.1.2]
        exact hs6
      · have hlt2 : Hid (¬ m < v) := fun h => hq (hcq.out.2 h)
        have hqf : decide (0 < cq) = false := by simp; omega
        gi_wp2
        have hBW := hA6.mono (show w.heap.size + 1 + 1 + 1 ≤ W.heap.size by omega)
        refine ⟨keepsFrom_below hA6, ⟨hBW, Kf.below hA6 (by omega)⟩, ⟨?_, hall.out⟩, hB.trans hBW⟩
        unfold mxC
        rw [hst.out, if_neg hlt2.out, Hnums.out.2.1, Hnums.out.2.2]
        exact r6
  case done =>
    rintro D ys W hD rfl ⟨⟨hm, hok⟩, hB⟩ hK
    have hWz := hB.size
    have q4 := b4.below hB (by omega)
    have q5 := b5.below hB (by omega)
    have hBw : Below w.heap.size w W := hW0.trans (hB.mono (by omega))
    have hres : Hid (greatO val ys = some (mxV val ys)) := if_pos hok
    unfold mxC at hm
    obtain ⟨mn, hmn⟩ : ∃ mn, (mxV val ys).num = mn := ⟨_, rfl⟩
    obtain ⟨md, hmd⟩ : ∃ md : Int, ((mxV val ys).den : Int) = md := ⟨_, rfl⟩
    rw [hmn, hmd] at hm
    have hv : Hid (numV (greatO val ys) = (mn, md, 0)) := by unfold Hid; rw [hres.out]; show ((mxV val ys).num, ((mxV val ys).den : Int), (0 : Int)) = _; rw [hmn, hmd]
    have m0 := hm.cell 0
    have m1 := hm.cell 1
    have k6 := hm.lt
    have f4 := q4.frozen 0
    have f4' := q4.frozen 1
    have f5 := q5.frozen 0
    have c4 := q4.cell 0
    have c4' := q4.cell 1
    have c5 := q5.cell 0
    have k4 := q4.lt
    have k5 := q5.lt
    have hKs : (((W.setCell ⟨w.heap.size + 1, 0, none⟩ (.int .i64 mn)).setCell ⟨w.heap.size + 1, 1, none⟩ (.int .i64 md)).setCell ⟨w.heap.size + 1 + 1, 0, none⟩ (.int .i64 0)).heap[D]? = some (.deferred (some [])) :=
      (Below.heap_setCell _ _ _ D (by simp; omega)).trans ((Below.heap_setCell _ _ _ D (by simp; omega)).trans ((Below.heap_setCell _ _ _ D (by simp; omega)).trans hK))
    have p4 := (q4.set2 (.int .i64 mn) (.int .i64 md)).far (p := ⟨w.heap.size + 1 + 1, 0, none⟩) (by simp) (.int .i64 0)
    have p5 := ((q5.far (p := ⟨w.heap.size + 1, 0, none⟩) (by simp) (.int .i64 mn)).far (p := ⟨w.heap.size + 1, 1, none⟩) (by simp) (.int .i64 md)).set1 0 (.int .i64 0)
    have s4 := Lib.hid ((cell_same (World.putObj_heap_other (w := ((W.setCell ⟨w.heap.size + 1, 0, none⟩ (.int .i64 mn)).setCell ⟨w.heap.size + 1, 1, none⟩ (.int .i64 md)).setCell ⟨w.heap.size + 1 + 1, 0, none⟩ (.int .i64 0)) (o := .deferred none) (show w.heap.size + 1 ≠ D by omega)) 0).trans (p4.cell 0))
    have s4' := Lib.hid ((cell_same (World.putObj_heap_other (w := ((W.setCell ⟨w.heap.size + 1, 0, none⟩ (.int .i64 mn)).setCell ⟨w.heap.size + 1, 1, none⟩ (.int .i64 md)).setCell ⟨w.heap.size + 1 + 1, 0, none⟩ (.int .i64 0)) (o := .deferred none) (show w.heap.size + 1 ≠ D by omega)) 1).trans (p4.cell 1))
    have s5 := Lib.hid ((cell_same (World.putObj_heap_other (w := ((W.setCell ⟨w.heap.size + 1, 0, none⟩ (.int .i64 mn)).setCell ⟨w.heap.size + 1, 1, none⟩ (.int .i64 md)).setCell ⟨w.heap.size + 1 + 1, 0, none⟩ (.int .i64 0)) (o := .deferred none) (show w.heap.size + 1 + 1 ≠ D by omega)) 0).trans (p5.cell 0))
    have HKs := Lib.hid hKs
    clear hKs p4 p5 hm hok hmn hmd
    gi_wp2
    refine ⟨by simp, .inl ⟨_, _, rfl, run_takeDeferred HKs.out, ?_⟩⟩
    refine ⟨ratV (mn, md, 0), by simp [results, Tryz.f72, go_sem, ratV, s4.out, s4'.out, s5.out], by rw [hv.out], ?_⟩
    exact (((hBw.setCell (p := ⟨w.heap.size + 1, 0, none⟩) (by simp) _).setCell (p := ⟨w.heap.size + 1, 1, none⟩) (by simp) _).setCell (p := ⟨w.heap.size + 1 + 1, 0, none⟩) (by simp; omega) _).trans (belowK_b (w := w) (Nat.le_refl _) _ D _ _ (by omega) HKs.out rfl rfl)
  case stop =>
    rintro D c pre W hD hpre ⟨⟨⟨rfl, x, hx, hn⟩, q4, q5⟩, hB⟩ hK
    have hno : numV (greatO val T) = (0, 0, 3) := by
      unfold greatO
      rw [if_neg (fun h => by rw [h x (hpre.subset hx)] at hn; cases hn)]
      rfl
    have r4 : (W.putObj D (.deferred none)).cell? ⟨w.heap.size + 1, 0, none⟩ = some (.int .i64 0) := (cell_same (World.putObj_heap_other (by omega)) 0).trans (q4.cell 0)
    have r4' : (W.putObj D (.deferred none)).cell? ⟨w.heap.size + 1, 1, none⟩ = some (.int .i64 0) := (cell_same (World.putObj_heap_other (by omega)) 1).trans (q4.cell 1)
    have r5 : (W.putObj D (.deferred none)).cell? ⟨w.heap.size + 1 + 1, 0, none⟩ = some (.int .i64 3) := (cell_same (World.putObj_heap_other (by omega)) 0).trans (q5.cell 0)
    gi_wp2
    refine ⟨by simp, .inl ⟨_, _, rfl, run_takeDeferred hK, ?_⟩⟩
    refine ⟨ratV (0, 0, 3), by simp [results, Tryz.f72, go_sem, ratV, r4, r4', r5], by rw [hno], ?_⟩
    exact hB.trans (belowK_b (w := w) (Nat.le_refl _) W D _ _ (by omega) hK rfl rfl)

end Go.Proofs.YtbncfknjgldcbaaGreat
