/- Merged texts: CGapsB. -/
import Derived.Test.YtbncfknjgldcbaaGreatM15
import Derived.Test.YtbncfknjgldcbaaGreatM17
import Derived.Carry
/- calculus.gaps: the differences of times above the least one, each once; a round may stop it. -/
namespace Go.Proofs.YtbncfknjgldcbaaGreat
open Go.RowKit Go.Joins
attribute [local go_sem] Oper.semAt_some

/-- What the iterator reads. -/
structure GapR (b1 b2 : Nat) (A : Option Addr) (cap : Nat) (l : List Sn) (h : Int) (W : World) : Prop where
  lb : BoxN W b1 61 #[.slice A l.length cap]
  hb : BoxN W b2 3 #[.int .i64 h]
  row : isS A l W

set_option maxRecDepth 100000 in
set_option maxHeartbeats 4000000 in
theorem gapsB_in (n : Nat) (hn : 4 ≤ n) (lb b1 b2 : Nat) (A : Option Addr) (cap : Nat) (l : List Sn) (hlen : l.length ≤ 4000) (hok : frOk 0 l = true) (h : Int) (hh0 : 0 ≤ h) (J : List Int → World → Prop) (D : World → Prop) (W : World)
    (hR : ∀ s A', J s A' → GapR b1 b2 A cap l h A') (hJ : ∀ s A C, J s A → Below W.heap.size A C → J s C) (hD : ∀ A C, D A → Below W.heap.size A C → D C)
    (hY : ∀ pre x W1, W.heap.size ≤ W1.heap.size → J pre W1 → pre ++ [x] <+: gapsL l h →
      YieldAt Fence.wide (n - 1) Tryz.prog lb #[.int .i64 x] W1 fun e W' => Kb W.heap.size W1 W' ∧ ((e = .returned (.bool true) ∧ J (pre ++ [x]) W') ∨ (e = .returned (.bool false) ∧ D W')))
    (h0 : J [] W) :
    CallsIn Fence.wide n Tryz.prog 119 #[.func (.yield lb) #[] #[], .pointer (some ⟨b1, 0, none⟩), .pointer (some ⟨b2, 0, none⟩)] W fun e W' => (∃ v, e = .returned v) ∧ (J (gapsL l h) W' ∨ D W') := by
  have hro : Fence.wide.round = none := rfl
  have HJ := Lib.hid hJ
  have HD := Lib.hid hD
  have HY := Lib.hid hY
  have HR := Lib.hid hR
  have H0 := Lib.hid h0
  have h1 := (hR _ _ h0).lb
  have h2 := (hR _ _ h0).hb
  have hb1 := h1.lt
  have hb2 := h2.lt
  clear hJ hD hY hR h0
  refine callsIn_of_wp_marks Tryz.func119 rfl trivial ?_ hro
  simp only [Tryz.ntmps119, List.size_toArray, List.length_cons, List.length_nil, Nat.reduceAdd, Nat.reduceSub, Array.replicate_succ, Array.replicate_zero, List.push_toArray, List.append_toArray, List.nil_append, List.cons_append]
  have c1 : W.cell? ⟨b1, 0, none⟩ = some (.slice A l.length cap) := h1.cell 0
  have hB1 : Below W.heap.size W (((W.alloc (.cells #[.func (.yield lb) #[] #[]] 150)).alloc (.map #[] 0)).alloc (.cells #[.map (some (W.heap.size + 1))] 151)) :=
    (((Below.refl _ W).alloc (Nat.le_refl _) _).alloc (by simp) _).alloc (by simp; omega) _
  have c1a : ((W.alloc (.cells #[.func (.yield lb) #[] #[]] 150)).alloc (.map #[] 0)).cell? ⟨b1, 0, none⟩ = some (.slice A l.length cap) :=
    (Below.cell (p := ⟨b1, 0, none⟩) (((Below.refl _ W).alloc (Nat.le_refl _) (.cells #[.func (.yield lb) #[] #[]] 150)).alloc (by simp) (.map #[] 0)) hb1).trans c1
  have c1b : (((W.alloc (.cells #[.func (.yield lb) #[] #[]] 150)).alloc (.map #[] 0)).alloc (.cells #[.map (some (W.heap.size + 1))] 151)).cell? ⟨b1, 0, none⟩ = some (.slice A l.length cap) :=
    (hB1.cell (p := ⟨b1, 0, none⟩) hb1).trans c1
  have hmm := fun w : World => run_makeMap (P := Tryz.prog) 151 w
  have hzm : ∀ w : World, (zeroValue 151).run Tryz.prog w = .ok (.map none) w := fun _ => by kernel_rfl
  gi_wp2_with fail
  refine ⟨trivial, ?_⟩
  clear hmm hzm c1a c1b
  have bT3a : BoxN (((W.alloc (.cells #[.func (.yield lb) #[] #[]] 150)).alloc (.map #[] 0)).alloc (.cells #[.map (some (W.heap.size + 1))] 151)) W.heap.size 150 #[.func (.yield lb) #[] #[]] := ((BoxN.new W _ _).alloc _).alloc _
  have bT4a : BoxN (((W.alloc (.cells #[.func (.yield lb) #[] #[]] 150)).alloc (.map #[] 0)).alloc (.cells #[.map (some (W.heap.size + 1))] 151)) (W.heap.size + 1 + 1) 151 #[.map (some (W.heap.size + 1))] := by
    have := BoxN.new ((W.alloc (.cells #[.func (.yield lb) #[] #[]] 150)).alloc (.map #[] 0)) 151 #[.map (some (W.heap.size + 1))]
    rwa [World.size_alloc, World.size_alloc] at this
  have hMSa : MapS (((W.alloc (.cells #[.func (.yield lb) #[] #[]] 150)).alloc (.map #[] 0)).alloc (.cells #[.map (some (W.heap.size + 1))] 151)) (W.heap.size + 1) 0 [] := by
    have := MapS.made (W.alloc (.cells #[.func (.yield lb) #[] #[]] 150))
    rw [World.size_alloc] at this
    exact this.block (heap_alloc_old _ _ this.lt)
  generalize ((W.alloc (.cells #[.func (.yield lb) #[] #[]] 150)).alloc (.map #[] 0)).alloc (.cells #[.map (some (W.heap.size + 1))] 151) = W1 at *
  refine ⟨fun _ => by omega, ?_⟩
  (with_reducible refine (callsIn_wide.2 (backw_any _ _ _ _)).mono ?_); rintro e w2 ⟨rfl, rfl⟩
  have hBs := BoxN.new W1 61 #[.slice A l.length cap]
  have hB2 := hB1.alloc hB1.size (.cells #[.slice A l.length cap] 61)
  gi_wp2_with fail
  have bT3 : BoxN (W1.alloc (.cells #[.slice A l.length cap] 61)) W.heap.size 150 #[.func (.yield lb) #[] #[]] := bT3a.alloc _
  have bT4 : BoxN (W1.alloc (.cells #[.slice A l.length cap] 61)) (W.heap.size + 1 + 1) 151 #[.map (some (W.heap.size + 1))] := bT4a.alloc _
  have hMS := (hMSa.block (W' := W1.alloc (.cells #[.slice A l.length cap] 61)) (heap_alloc_old _ _ hMSa.lt))
  have hbs := hBs.lt
  have hBsz := bT4a.lt
  have hJ2 := Lib.hid (HJ.out _ _ _ H0.out hB2)
  have hB2' := Lib.hid hB2.size
  clear bT3a bT4a hMSa hB1 h1 h2
  generalize W1.heap.size = Bs at hBs hbs hBsz ⊢
  generalize W1.alloc (.cells #[.slice A l.length cap] 61) = W2 at *
  refine wpIn_handsB hro (by omega) (gf := 143) (lb := #[.pointer (some ⟨Bs, 0, none⟩)]) rfl trivial (enters_of Tryz.func143 (by kernel_rfl) rfl)
    (backw_handsB Bs A cap l hlen (n - 1) (by omega) W2) (Below.refl _ _) (fun _ => rfl)
    (fun ps V => J (outerL h l ps []) V ∧ BoxN V Bs 61 #[.slice A l.length cap] ∧ BoxN V W.heap.size 150 #[.func (.yield lb) #[] #[]] ∧ BoxN V (W.heap.size + 1 + 1) 151 #[.map (some (W.heap.size + 1))] ∧ MapS V (W.heap.size + 1) (4000 * ps.length) (outerL h l ps []))
    D (fun s V hv => ⟨hv.2.1, (HR.out _ _ hv.1).row⟩)
    (fun s V C ⟨q1, q2, q3, q4, q5⟩ hk => ⟨HJ.out _ _ _ q1 (hk.mono hB2'.out), (hk.block _ hbs).trans q2, (hk.block _ bT3.lt).trans q3, (hk.block _ bT4.lt).trans q4, q5.block (hk.block _ hMS.lt)⟩)
    (fun V C q hk => HD.out _ _ q (hk.mono hB2'.out))
    ⟨hJ2.out, hBs, bT3, bT4, hMS⟩
    (fun x a' V => ∃ B6, W2.heap.size + 2 ≤ B6 ∧ BoxN V B6 85 #[.int .i64 x.2.t, .int .i64 x.2.v, .int .i64 x.2.s] ∧ a' = { tmps := #[.func (.yield lb) #[] #[], .pointer (some ⟨b1, 0, none⟩), .pointer (some ⟨b2, 0, none⟩), .pointer (some ⟨W.heap.size, 0, none⟩), .pointer (some ⟨W.heap.size + 1 + 1, 0, none⟩), undef, .pointer (some ⟨B6, 0, none⟩), undef, undef, undef, .map (some (W.heap.size + 1)), .slice A l.length cap, .func (.func 143) #[] #[.pointer (some ⟨Bs, 0, none⟩)], .int .i64 x.1, .agg #[.int .i64 x.2.t, .int .i64 x.2.v, .int .i64 x.2.s], undef, undef, undef, undef, undef, undef, undef, undef, undef, undef, undef, undef, undef, undef, undef, undef, undef, undef, undef, undef, undef, undef, undef, undef, undef, undef, undef], defers := [] })
    (fun x a' V k r r' ⟨B6, e1, e2, e3⟩ _ hk hr => ⟨B6, e1, (World.putObj_heap_other (by omega)).trans e2, e3⟩)
    ?assign ?body ?done ?stop
  case assign =>
    rintro lr pre x V K hv hz hK
    unfold encS
    have hzs : ∀ w : World, (zeroValue 85).run Tryz.prog w = .ok (.agg #[.int .i64 0, .int .i64 0, .int .i64 0]) w := fun _ => by kernel_rfl
    have hK' := Lib.hid hK
    obtain ⟨q1, q2, q3, q4, q5⟩ := hv
    have hal : Below V.heap.size V (V.alloc (.cells #[.int .i64 x.2.t, .int .i64 x.2.v, .int .i64 x.2.s] 85)) := (Below.refl _ _).alloc (Nat.le_refl _) _
    have f1 := Lib.hid (HJ.out _ _ _ q1 (hal.mono (by have := hB2'.out; omega)))
    have f2 := Lib.hid (q2.alloc (.cells #[.int .i64 x.2.t, .int .i64 x.2.v, .int .i64 x.2.s] 85))
    have f3 := Lib.hid (q3.alloc (.cells #[.int .i64 x.2.t, .int .i64 x.2.v, .int .i64 x.2.s] 85))
    have f4 := Lib.hid (q4.alloc (.cells #[.int .i64 x.2.t, .int .i64 x.2.v, .int .i64 x.2.s] 85))
    have f5 := Lib.hid (q5.block (heap_alloc_old V (.cells #[.int .i64 x.2.t, .int .i64 x.2.v, .int .i64 x.2.s] 85) q5.lt))
    have f6 := Lib.hid (Kb.below (B := W2.heap.size) hal)
    have f7 := Lib.hid (BoxN.new V 85 #[.int .i64 x.2.t, .int .i64 x.2.v, .int .i64 x.2.s])
    clear hK q1 q2 q3 q4 q5 hal
    gi_wp2_with fail
    exact hK'.out _ _ f6.out ⟨f1.out, f2.out, f3.out, f4.out, f5.out⟩ ⟨V.heap.size, hz, f7.out, rfl⟩
  case body =>
    rintro lr pre x a' V hz ⟨q1, q2, q3, q4, q5⟩ ⟨B6, hB6, b6, rfl⟩ hpre
    have hx : l[x.1]? = some x.2 := backL_mem (Nat.le_refl _) (by
      obtain ⟨t, ht⟩ := hpre
      rw [← ht]; simp)
    obtain ⟨bx1, bx2, -, -⟩ := frOk_mem hok (Int.le_refl 0) x.2 (List.mem_of_getElem? hx)
    have hpl : pre.length < 4000 := by
      have := hpre.length_le
      rw [backL_length] at this
      simp at this
      omega
    have hout : Hid (outerL h l (pre ++ [x]) [] = innerL x.2.t h (outerL h l pre []) l) := outerL_snoc h l pre x []
    have hpart : innerL x.2.t h (outerL h l pre []) l <+: gapsL l h := by
      have := outerL_part (h := h) (l := l) hpre
      rw [outerL_snoc] at this
      exact this
    have hlen2 : Hid (4000 * (pre ++ [x]).length = 4000 * pre.length + 4000) := by unfold Hid; simp; omega
    obtain ⟨a0, ha0⟩ : ∃ a, outerL h l pre [] = a := ⟨_, rfl⟩
    obtain ⟨M0, hM0⟩ : ∃ m, 4000 * pre.length = m := ⟨_, rfl⟩
    have hMb : M0 ≤ 16000000 := by omega
    obtain ⟨T, hT⟩ : ∃ T, x.2.t = T := ⟨_, rfl⟩
    rw [ha0] at q1 q5 hout hpart
    rw [hM0] at q5 hlen2
    rw [hT] at bx1 bx2 b6 hout hpart ⊢
    obtain ⟨R9, hR9⟩ : ∃ r, innerL T h a0 l = r := ⟨_, rfl⟩
    rw [hR9] at hout hpart
    have HR9 := Lib.hid hR9
    have Hpart := Lib.hid hpart
    have k1 : V.cell? ⟨b1, 0, none⟩ = some (.slice A l.length cap) := (HR.out _ _ q1).lb.cell 0
    obtain ⟨tx, htx⟩ : ∃ v, x.2.v = v := ⟨_, rfl⟩
    obtain ⟨ty, hty⟩ : ∃ v, x.2.s = v := ⟨_, rfl⟩
    rw [htx, hty] at b6 ⊢
    have Q1 := Lib.hid q1
    have Q2 := Lib.hid (And.intro q2 (And.intro q3 q4))
    have Q5 := Lib.hid q5
    have Q6 := Lib.hid b6
    have hwz : W2.heap.size ≤ V.heap.size := by omega
    clear hx hpre hpart hR9 ha0 hM0 hT htx hty q1 q2 q3 q4 q5 b6
    gi_wp2_with fail
    gi_loopw [17] (fun i wr => ∃ (j : Nat) (acc : List Int), j ≤ l.length ∧ i = .int .i64 ↑j ∧ J acc wr ∧ Hid (innerL T h acc (l.drop j) = R9) ∧ MapS wr (W.heap.size + 1) (M0 + j) acc ∧ (BoxN wr Bs 61 #[.slice A l.length cap] ∧ BoxN wr W.heap.size 150 #[.func (.yield lb) #[] #[]] ∧ BoxN wr (W.heap.size + 1 + 1) 151 #[.map (some (W.heap.size + 1))]) ∧ BoxN wr B6 85 #[.int .i64 T, .int .i64 tx, .int .i64 ty] ∧ Kb W2.heap.size V wr) (fun i _ => l.length - (intOf i).toNat)
    case atStart => exact ⟨0, a0, Nat.zero_le _, rfl, Q1.out, HR9.out, Q5.out, Q2.out, Q6.out, Kb.refl _ _⟩
    case round =>
      obtain ⟨j, acc, hj, rfl, hJ1, hinn, hM, ⟨hx1, hx2, hx3⟩, h6, hK⟩ := hrel
      clear Q1 Q2 Q5 Q6 k1
      have hwr := hK.b
      by_cases hlt : j < l.length
      · have hf : l[j]? = some (l[j]'hlt) := List.getElem?_eq_getElem hlt
        obtain ⟨f, hfe⟩ : ∃ f, l[j]'hlt = f := ⟨_, rfl⟩
        rw [hfe] at hf
        obtain ⟨by1, by2, -, -⟩ := frOk_mem hok (Int.le_refl 0) f (List.mem_of_getElem? hf)
        have hGR := HR.out _ _ hJ1
        obtain ⟨b, off, rfl, hb, hr⟩ := hGR.row (by intro e; rw [e] at hlt; simp at hlt)
        obtain ⟨y0, y1, y2⟩ := hr j f hf
        have hal : Below wr.heap.size wr (wr.alloc (.cells #[.int .i64 f.t, .int .i64 f.v, .int .i64 f.s] 85)) := (Below.refl _ _).alloc (Nat.le_refl _) _
        have hstep : Hid (innerL T h acc (l.drop j) = if T - f.t ≤ h then acc else innerL T h (if acc.contains (T - f.t) then acc else acc ++ [T - f.t]) (l.drop (j + 1))) := by unfold Hid; rw [drop_at hf]; rfl
        have hwf : (Lit.int .i64 (T - f.t)).wf = true := WalkArith.wf_i64 (by omega)
        have z6 : (wr.alloc (.cells #[.int .i64 f.t, .int .i64 f.v, .int .i64 f.s] 85)).cell? ⟨B6, 0, none⟩ = some (.int .i64 T) := (h6.alloc _).cell 0
        have z2 : (wr.alloc (.cells #[.int .i64 f.t, .int .i64 f.v, .int .i64 f.s] 85)).cell? ⟨b2, 0, none⟩ = some (.int .i64 h) := (hGR.hb.alloc _).cell 0
        have z3 : (wr.alloc (.cells #[.int .i64 f.t, .int .i64 f.v, .int .i64 f.s] 85)).cell? ⟨W.heap.size, 0, none⟩ = some (.func (.yield lb) #[] #[]) := (hx2.alloc _).cell 0
        have z4 : (wr.alloc (.cells #[.int .i64 f.t, .int .i64 f.v, .int .i64 f.s] 85)).cell? ⟨W.heap.size + 1 + 1, 0, none⟩ = some (.map (some (W.heap.size + 1))) := (hx3.alloc _).cell 0
        have l6 := h6.lt
        have l2 := hGR.hb.lt
        have l3 := hx2.lt
        have l4 := hx3.lt
        have hM8 := hM.block (W' := (wr.alloc (.cells #[.int .i64 f.t, .int .i64 f.v, .int .i64 f.s] 85))) (heap_alloc_old _ _ hM.lt)
        have hlook := hM8.look hwf
        have HM8 := Lib.hid hM8
        have HJ8 := Lib.hid (HJ.out _ _ _ hJ1 (hal.mono (by have := hB2'.out; omega)))
        have HX := Lib.hid (And.intro (hx1.alloc (.cells #[.int .i64 f.t, .int .i64 f.v, .int .i64 f.s] 85)) (And.intro (hx2.alloc (.cells #[.int .i64 f.t, .int .i64 f.v, .int .i64 f.s] 85)) (And.intro (hx3.alloc (.cells #[.int .i64 f.t, .int .i64 f.v, .int .i64 f.s] 85)) (h6.alloc (.cells #[.int .i64 f.t, .int .i64 f.v, .int .i64 f.s] 85)))))
        have HK8 := Lib.hid (hK.trans (Kb.below (B := W2.heap.size) hal))
        have hzs : ∀ w : World, (zeroValue 85).run Tryz.prog w = .ok (.agg #[.int .i64 0, .int .i64 0, .int .i64 0]) w := fun _ => by kernel_rfl
        have hd : decide ((j : Int) < l.length) = true := by simp; omega
        clear hM8 hx1 hx2 hx3 h6 hK hM hJ1 hr hf hfe hal hGR
        by_cases hle : T - f.t ≤ h
        · have hd2 : decide (T - f.t ≤ h) = true := decide_eq_true hle
          have hacc : Hid (acc = R9) := by have := hinn.out; rwa [hstep.out, if_pos hle] at this
          have hfin : Hid (roundEndB W2.heap.size V (fun ps V => J (outerL h l ps []) V ∧ BoxN V Bs 61 #[.slice (some ⟨b, off, none⟩) l.length cap] ∧ BoxN V W.heap.size 150 #[.func (.yield lb) #[] #[]] ∧ BoxN V (W.heap.size + 1 + 1) 151 #[.map (some (W.heap.size + 1))] ∧ MapS V (W.heap.size + 1) (4000 * ps.length) (outerL h l ps [])) D (pre ++ [x]) .normal { tmps := #[], defers := [] } (wr.alloc (.cells #[.int .i64 f.t, .int .i64 f.v, .int .i64 f.s] 85))) := by
            refine ⟨HK8.out, ?_, HX.out.1, HX.out.2.1, HX.out.2.2.1, ?_⟩
            · show J (outerL h l (pre ++ [x]) []) _
              rw [hout.out, ← hacc.out]; exact HJ8.out
            · show MapS _ _ (4000 * (pre ++ [x]).length) (outerL h l (pre ++ [x]) [])
              rw [hout.out, hlen2.out, ← hacc.out]; exact HM8.out.mono (by omega)
          clear hlook
          gi_wp2_with fail
          exact hfin.out
        · have hd2 : decide (T - f.t ≤ h) = false := decide_eq_false hle
          have hin2 := Lib.hid (show innerL T h (if acc.contains (T - f.t) then acc else acc ++ [T - f.t]) (l.drop (j + 1)) = R9 by have := hinn.out; rwa [hstep.out, if_neg hle] at this)
          cases hsn : acc.contains (T - f.t) with
          | true =>
            rw [hsn] at hlook
            rw [hsn, if_pos rfl] at hin2
            obtain ⟨W4, hst, hM4, hgr⟩ := HM8.out.store (by have : M0 + j < 20000000 := by omega
                                                            unfold maxLen; omega) hwf
            rw [hsn, if_pos rfl] at hM4
            have hb4 : Below W.heap.size (wr.alloc (.cells #[.int .i64 f.t, .int .i64 f.v, .int .i64 f.s] 85)) W4 := (Below.refl _ _).grown hgr (by simp; omega) (fun r hr => by cases hr; omega)
            have HJ4 := Lib.hid (HJ.out _ _ _ HJ8.out hb4)
            have HM4 := Lib.hid hM4
            have HK4 := Lib.hid (HK8.out.trans ⟨hgr.size, fun i h1 h2 => hgr.block i h2 (by intro e; cases e; have := hB2'.out; omega)⟩)
            have HX4 := Lib.hid (And.intro ((hgr.block _ HX.out.1.lt (by intro e; cases e; omega)).trans HX.out.1) (And.intro ((hgr.block _ HX.out.2.1.lt (by intro e; have := Option.some.inj e; omega)).trans HX.out.2.1) (And.intro ((hgr.block _ HX.out.2.2.1.lt (by intro e; have := Option.some.inj e; omega)).trans HX.out.2.2.1) ((hgr.block _ HX.out.2.2.2.lt (by intro e; have := Option.some.inj e; have := hB2'.out; omega)).trans HX.out.2.2.2))))
            clear hM4 hgr hb4
            gi_wp2_with fail
            refine ⟨(fun _ h => by cases h), ?_⟩
            gi_wp2_with fail
            go_roundw
            case rel => exact ⟨j + 1, acc, hlt, by go_num, HJ4.out, hin2.out, HM4.out, ⟨HX4.out.1, HX4.out.2.1, HX4.out.2.2.1⟩, HX4.out.2.2.2, HK4.out⟩
            case measure => simp [intOf]; omega
          | false =>
            rw [hsn] at hlook
            rw [hsn, if_neg (by simp)] at hin2
            obtain ⟨fn, tmps, assign, body, hyy, hR3⟩ := HY.out acc (T - f.t) (wr.alloc (.cells #[.int .i64 f.t, .int .i64 f.v, .int .i64 f.s] 85)) (by have := hB2'.out; simp; omega) HJ8.out ((innerL_pre T h (l.drop (j + 1)) (acc ++ [T - f.t])).trans (by rw [hin2.out]; exact Hpart.out))
            have HR3 : Hid (∀ m, RoundIn (Fence.wide.inRound lr) m Tryz.prog lb fn tmps assign body (wr.alloc (.cells #[.int .i64 f.t, .int .i64 f.v, .int .i64 f.s] 85)) _) := fun m => ⟨hR3.1, fun c cs _ => hR3.2 c cs (room_wide _)⟩
            have Hhg : Hid (∀ W3 : World, Kb W.heap.size (wr.alloc (.cells #[.int .i64 f.t, .int .i64 f.v, .int .i64 f.s] 85)) W3 → BoxN W3 Bs 61 #[.slice (some ⟨b, off, none⟩) l.length cap] ∧ BoxN W3 W.heap.size 150 #[.func (.yield lb) #[] #[]] ∧ BoxN W3 (W.heap.size + 1 + 1) 151 #[.map (some (W.heap.size + 1))] ∧ BoxN W3 B6 85 #[.int .i64 T, .int .i64 tx, .int .i64 ty] ∧ MapS W3 (W.heap.size + 1) (M0 + j) acc ∧ Kb W2.heap.size V W3) := fun W3 hk =>
              ⟨hk.boxN HX.out.1 (by omega), hk.boxN HX.out.2.1 (Nat.le_refl _), hk.boxN HX.out.2.2.1 (by omega), hk.boxN HX.out.2.2.2 (by have := hB2'.out; omega), HM8.out.block (hk.same _ (by omega) HM8.out.lt), HK8.out.trans (hk.mono hB2'.out)⟩
            clear hR3
            gi_wp2_with fail
            refine ⟨(fun _ => by omega), ?_⟩
            refine (HR3.out _).mono ?_
            rintro e W3 ⟨hk, (⟨rfl, hj3⟩ | ⟨rfl, hj3⟩)⟩
            · obtain ⟨w1, w2, w3, w4, w5, w6⟩ := Hhg.out W3 hk
              obtain ⟨W4, hst, hM4, hgr⟩ := w5.store (by have : M0 + j < 20000000 := by omega
                                                         unfold maxLen; omega) hwf
              rw [hsn, if_neg (by simp)] at hM4
              have hb4 : Below W.heap.size W3 W4 := (Below.refl _ _).grown hgr (by have := w2.lt; omega) (fun r hr => by cases hr; omega)
              have HJ4 := Lib.hid (HJ.out _ _ _ hj3 hb4)
              have HM4 := Lib.hid hM4
              have HK4 := Lib.hid (w6.trans ⟨hgr.size, fun i h1 h2 => hgr.block i h2 (by intro e; have := Option.some.inj e; omega)⟩)
              have HX4 := Lib.hid (And.intro ((hgr.block _ w1.lt (by intro e; have := Option.some.inj e; omega)).trans w1) (And.intro ((hgr.block _ w2.lt (by intro e; have := Option.some.inj e; omega)).trans w2) (And.intro ((hgr.block _ w3.lt (by intro e; have := Option.some.inj e; omega)).trans w3) ((hgr.block _ w4.lt (by intro e; have := Option.some.inj e; omega)).trans w4))))
              have y4 := w3.cell 0
              have y5 := w3.lt
              clear hM4 hgr hb4 hj3 hk hyy hlook z2 z3 z4 z6 w1 w2 w3 w4 w5 w6 HR3 Hhg
              gi_wp2_with fail
              go_roundw
              case rel => exact ⟨j + 1, acc ++ [T - f.t], hlt, by go_num, HJ4.out, hin2.out, HM4.out, ⟨HX4.out.1, HX4.out.2.1, HX4.out.2.2.1⟩, HX4.out.2.2.2, HK4.out⟩
              case measure => simp [intOf]; omega
            · have hfin := Lib.hid (And.intro (Hhg.out W3 hk).2.2.2.2.2 hj3)
              clear hyy hlook z2 z3 z4 z6 hk hj3 HR3 Hhg
              gi_wp2_with fail
              exact hfin.out
      · obtain rfl : j = l.length := by omega
        have hacc : Hid (acc = R9) := by have := hinn.out; rwa [List.drop_length, innerL] at this
        have hfin : Hid (roundEndB W2.heap.size V (fun ps V => J (outerL h l ps []) V ∧ BoxN V Bs 61 #[.slice A l.length cap] ∧ BoxN V W.heap.size 150 #[.func (.yield lb) #[] #[]] ∧ BoxN V (W.heap.size + 1 + 1) 151 #[.map (some (W.heap.size + 1))] ∧ MapS V (W.heap.size + 1) (4000 * ps.length) (outerL h l ps [])) D (pre ++ [x]) .normal { tmps := #[], defers := [] } wr) := by
          refine ⟨hK, ?_, hx1, hx2, hx3, ?_⟩
          · show J (outerL h l (pre ++ [x]) []) _
            rw [hout.out, ← hacc.out]; exact hJ1
          · show MapS _ _ (4000 * (pre ++ [x]).length) (outerL h l (pre ++ [x]) [])
            rw [hout.out, hlen2.out, ← hacc.out]; exact hM.mono (by omega)
        clear hK hx1 hx2 hx3 hM hJ1 h6
        gi_wp2_with fail
        exact hfin.out
  case done =>
    rintro Dk V hD hz ⟨hv, -⟩ hK
    have hj : Hid (∀ o, J (gapsL l h) (V.putObj Dk o)) := fun o => HJ.out _ _ _ hv ⟨rfl, rfl, rfl, by simp, fun j hj => World.putObj_heap_other (by have := hB2'.out; omega)⟩
    clear hv
    gi_wp2_with fail
    refine ⟨by simp, .inl ⟨_, _, rfl, run_takeDeferred hK, ?_⟩⟩
    exact ⟨_, results_none rfl _ _ _, ⟨_, rfl⟩, .inl (hj.out _)⟩
  case stop =>
    rintro Dk V hDk hz hv hK
    have hj : Hid (∀ o, D (V.putObj Dk o)) := fun o => HD.out _ _ hv ⟨rfl, rfl, rfl, by simp, fun j hj => World.putObj_heap_other (by have := hB2'.out; omega)⟩
    clear hv
    gi_wp2_with fail
    refine ⟨by simp, .inl ⟨_, _, rfl, run_takeDeferred hK, ?_⟩⟩
    exact ⟨_, results_none rfl _ _ _, ⟨_, rfl⟩, .inr (hj.out _)⟩
end Go.Proofs.YtbncfknjgldcbaaGreat
