/- Merged texts: RRate. -/
import Derived.Test.YtbncfknjgldcbaaGreatM9
/- The reference's Rate and Min. -/
namespace Go.Proofs.YtbncfknjgldcbaaGreat.Ref
open Go.RowKit Go.Joins Go.Shelf Go.Sort Num

section
variable (A : Option Addr) (cap : Nat)
theorem rate_bad (c : List Bk) (hlen : c.length ≤ 1048576) (hbd : ∀ x ∈ c, x.bd64) (w : World) (hI : SlR w.heap.size w (.slice A c.length cap) c) (hbad : valC c = false) :
    Calls Tryz.prog 11 #[.slice A c.length cap] w fun e w' => e = .returned (ratV (0, 0, 2)) ∧ Below w.heap.size w w' := by
  have hB0 := (Below.refl w.heap.size w).alloc (Nat.le_refl _) (.cells #[.int .i64 0, .int .i64 0] 25)
  have HV := valid_c A cap c hlen hbd _ ((hI.below hB0 (Nat.le_refl _)).more hB0.size)
  rw [hbad] at HV
  clear hI hbd hbad
  simp only [ratV]
  go_enter Tryz.func11, Tryz.ntmps11
  go_wp2_with fail
  (with_reducible refine HV.mono ?_); rintro e w1 ⟨rfl, hb1⟩
  obtain ⟨hc, hf⟩ := bcell hb1
  have hz := hb1.size
  simp only [World.size_alloc] at hc hf hz
  have hB := hB0.trans (hb1.mono hB0.size)
  go_wp2
  refine bodyPost_ret (v := ratV (0, 0, 2)) (by simp [results, Tryz.results11, go_sem, ratV, hc]) rfl ⟨rfl, ?_⟩
  (have hBs := hB.size; (try simp only [World.size_alloc] at hBs); repeat' (first | (with_reducible exact hB) | (with_reducible exact hBs) | (with_reducible refine Below.drew ?_) | (with_reducible refine below_drewN ?_ _) | (with_reducible refine Below.setCell ?_ ?_ _) | (with_reducible refine Below.alloc ?_ ?_ _) | go_size | omega | (simp; omega)))

theorem rateL_one (x : Buck) : rateL [x] = x.r := rfl
theorem rateL_snoc (c : List Buck) (x : Buck) (h : c ≠ []) : rateL (c ++ [x]) = if x.r < rateL c then x.r else rateL c := by
  unfold rateL
  rw [minB_snoc c x h]
  unfold rateStep
  split <;> rfl
theorem rateL_fit (c : List Buck) : Fit (rateL c) := (minB c).hr

set_option maxRecDepth 100000 in
set_option maxHeartbeats 8000000 in
theorem rate_ok (c : List Buck) (hl1 : 1 ≤ c.length) (hl2 : c.length ≤ 32) (w : World) (hI : Sl w.heap.size w (.slice A c.length cap) c) :
    Calls Tryz.prog 11 #[.slice A c.length cap] w fun e w' => e = .returned (ratV ((rateL c).num, ((rateL c).den : Int), 0)) ∧ Below w.heap.size w w' := by
  have hB0 := (Below.refl w.heap.size w).alloc (Nat.le_refl _) (.cells #[.int .i64 0, .int .i64 0] 25)
  have HV := valid_ok hl1 hl2 ((hI.below hB0 (Nat.le_refl _)).more hB0.size)
  obtain ⟨A', cap', e, hrow⟩ := hI
  simp only [Value.slice.injEq, true_and] at e
  obtain ⟨rfl, rfl⟩ := e
  obtain ⟨b, off, rfl, hb, hr⟩ := hrow (by intro h; subst h; simp at hl1)
  clear hrow
  go_enter Tryz.func11, Tryz.ntmps11
  go_wp2_with fail
  (with_reducible refine HV.mono ?_); rintro e w1 ⟨rfl, hb1⟩
  have hB1 := hB0.trans (hb1.mono hB0.size)
  have bR : BoxN w1 w.heap.size 25 #[.int .i64 0, .int .i64 0] := (BoxN.new w _ _).below hb1 (by simp)
  have hz1 := bR.lt
  clear hb1 HV hB0
  have hx : c[0]? = some c[0] := List.getElem?_eq_getElem (by omega)
  obtain ⟨x, hxe⟩ : ∃ x, c[0] = x := ⟨_, rfl⟩
  rw [hxe] at hx
  have hr1 := hr.below hB1 hb
  obtain ⟨c0, c1, c2, c3⟩ := hr1 0 x hx
  simp only [Nat.zero_mul, Nat.add_zero] at c0 c1 c2 c3
  have hb1 := Nat.lt_of_lt_of_le hb hB1.size
  have hlpos : (0 : Int) < c.length := by omega
  have bM0 := BoxN.new w1 25 #[.int .i64 x.r.num, .int .i64 x.r.den]
  have Hx := Lib.hid hx
  have Hr1 := Lib.hid hr1
  clear hx hxe hr1
  go_wp2_with fail
  go_loopw [5] (fun i wr => ∃ (k : Nat) (m : Rat), 1 ≤ k ∧ k ≤ c.length ∧ i = .int .i64 k ∧ Hid (m = rateL (c.take k)) ∧ Fit m ∧ BoxN wr w1.heap.size 25 #[.int .i64 m.num, .int .i64 m.den] ∧ Below w1.heap.size w1 wr)
    (fun i _ => c.length - (intOf i).toNat)
  case atStart => exact ⟨1, x.r, Nat.le_refl _, hl1, rfl, by unfold Hid; have := take_succ' Hx.out; rw [List.take_zero, List.nil_append] at this; rw [this, rateL_one], x.hr, by (first | exact bM0 | exact bM0.set2 _ _ | (refine BoxN.set2 (x := .int .i64 0) (y := .int .i64 0) _ _ ?_; exact BoxN.new w1 _ _)), by (repeat' (first | (with_reducible exact Below.refl _ _) | (with_reducible refine Below.setCell ?_ ?_ _) | (with_reducible refine Below.alloc ?_ ?_ _) | omega | exact Nat.le_refl _ | (simp; done) | (simp; omega)))⟩
  case round =>
    clear bM0 c0 c1 c2 c3
    obtain ⟨k, m, hk1, hk, rfl, hm, hfm, bM, hBr⟩ := hrel
    by_cases hlt : k < c.length
    · have hy : c[k]? = some c[k] := List.getElem?_eq_getElem hlt
      obtain ⟨y, hye⟩ : ∃ y, c[k] = y := ⟨_, rfl⟩
      rw [hye] at hy
      have hts := Lib.hid (take_succ' hy)
      have hrow := Hr1.out.below hBr hb1
      obtain ⟨c0, c1, c2, c3⟩ := hrow k y hy
      have hbz : b < wr.heap.size := Nat.lt_of_lt_of_le hb1 hBr.size
      have m0 : wr.cell? ⟨w1.heap.size, 0, none⟩ = some (.int .i64 m.num) := bM.cell 0
      have m1 : wr.cell? ⟨w1.heap.size, 1, none⟩ = some (.int .i64 m.den) := bM.cell 1
      have kM := bM.lt
      have q2 := Gr.cell c2 hbz
      have q3 := Gr.cell c3 hbz
      have p0 := Gr.cell m0 kM
      have p1 := Gr.cell m1 kM
      haveI : Nonempty (Wd (Gr wr)) := ⟨⟨wr, Below.refl _ _⟩⟩
      have hafter : ∀ s0 : Wd (Gr wr), Below wr.heap.size wr s0.val := fun s0 => s0.ok
      have Haf := Lib.hid hafter
      have hcq := @cmpQ_neg y.r m
      have HC1 : ∀ W : World, _ := fun W => cmp_r y.hr hfm W
      generalize cmpQ y.r m = k1 at HC1 hcq
      have HC1 := Lib.hid HC1
      have Hcq := Lib.hid hcq
      have Hrow := Lib.hid hrow
      have Hy := Lib.hid hy
      have HbM := Lib.hid bM
      have hmin : Hid (rateL (c.take (k + 1)) = if y.r < m then y.r else m) := by
        unfold Hid
        rw [hts.out, rateL_snoc _ _ (by intro h; rw [List.take_eq_nil_iff] at h; rcases h with h | h; omega; subst h; simp at hlt), hm.out]
      clear hcq hrow hy hye hafter c0 c1 c2 c3 m0 m1 bM hm
      by_cases hq : k1 < 0
      · go_wp2_with fail
        refine wp_region_cls (Gr wr) (by kernel_rfl) (by kernel_rfl) (Gr.start wr) ?_
        repeat (go_big_quiet_step (first | (go_at_call 53; (with_reducible exact Calls.cls Gr.close (HC1.out _)))))
        refine wpQuiet_nil ?_
        intro _ hw'
        obtain ⟨s0, rfl⟩ := hw'
        have hb3 := Haf.out s0
        clear p0 p1 q2 q3
        generalize s0.val = v1 at hb3 ⊢
        obtain ⟨_, _, c2, c3⟩ := Hrow.out.below hb3 hbz k y Hy.out
        have bM3 := HbM.out.below hb3 kM
        have f0 := bM3.frozen 0
        have f1 := bM3.frozen 1
        have m0 : v1.cell? ⟨w1.heap.size, 0, none⟩ = some (.int .i64 m.num) := bM3.cell 0
        have m1 : v1.cell? ⟨w1.heap.size, 1, none⟩ = some (.int .i64 m.den) := bM3.cell 1
        have kM3 := bM3.lt
        have hB3 := hBr.trans (hb3.mono hBr.size)
        have hlt' : Hid (y.r < m) := Hcq.out.1 hq
        clear hb3
        go_wp2
        go_roundw
        case rel => exact ⟨k + 1, y.r, by omega, by omega, by go_num, by unfold Hid; rw [hmin.out, if_pos hlt'.out], y.hr, bM3.set2 _ _, (hB3.setCell (p := ⟨w1.heap.size, 0, none⟩) (Nat.le_refl _) _).setCell (p := ⟨w1.heap.size, 1, none⟩) (Nat.le_refl _) _⟩
        case measure => simp [intOf]; omega
      · have hlt' : Hid (¬ y.r < m) := fun h => hq (Hcq.out.2 h)
        have hq' : decide (k1 < 0) = false := by simp; omega
        go_wp2_with fail
        refine wp_region_cls (Gr wr) (by kernel_rfl) (by kernel_rfl) (Gr.start wr) ?_
        repeat (go_big_quiet_step (first | (go_at_call 53; (with_reducible exact Calls.cls Gr.close (HC1.out _)))))
        refine wpQuiet_nil ?_
        intro _ hw'
        obtain ⟨s0, rfl⟩ := hw'
        have hb3 := Haf.out s0
        clear p0 p1 q2 q3
        generalize s0.val = v1 at hb3 ⊢
        have bM3 := HbM.out.below hb3 kM
        have hB3 := hBr.trans (hb3.mono hBr.size)
        clear hb3
        go_wp2
        go_roundw
        case rel => exact ⟨k + 1, m, by omega, by omega, by go_num, by unfold Hid; rw [hmin.out, if_neg hlt'.out], hfm, bM3, hB3⟩
        case measure => simp [intOf]; omega
    · obtain rfl : k = c.length := by omega
      have hm' : m = rateL c := by have := hm.out; rwa [List.take_length] at this
      subst hm'
      have m0 : wr.cell? ⟨w1.heap.size, 0, none⟩ = some (.int .i64 (rateL c).num) := bM.cell 0
      have m1 : wr.cell? ⟨w1.heap.size, 1, none⟩ = some (.int .i64 (rateL c).den) := bM.cell 1
      have kM := bM.lt
      have bR1 := bR.below hBr hz1
      have r0 : wr.cell? ⟨w.heap.size, 0, none⟩ = some (.int .i64 0) := bR1.cell 0
      have r1 : wr.cell? ⟨w.heap.size, 1, none⟩ = some (.int .i64 0) := bR1.cell 1
      have f0 := bR1.frozen 0
      have f1 := bR1.frozen 1
      have kR := bR1.lt
      have hB : Below w.heap.size w wr := hB1.trans (hBr.mono hB1.size)
      obtain ⟨rn, hrn⟩ : ∃ rn, (rateL c).num = rn := ⟨_, rfl⟩
      obtain ⟨rd, hrd⟩ : ∃ rd : Int, ((rateL c).den : Int) = rd := ⟨_, rfl⟩
      rw [hrn] at m0
      rw [hrd] at m1
      have Hrn := Lib.hid hrn
      have Hrd := Lib.hid hrd
      clear hrn hrd
      clear hm bM hBr
      go_wp2_with fail
      refine bodyPost_ret (v := ratV (rn, rd, 0)) (by simp [results, Tryz.results11, go_sem, ratV, r0, r1]) rfl ⟨by rw [Hrn.out, Hrd.out], ?_⟩
      (have hBs := hB.size; (try simp only [World.size_alloc] at hBs); repeat' (first | (with_reducible exact hB) | (with_reducible exact hBs) | (with_reducible refine Below.drew ?_) | (with_reducible refine below_drewN ?_ _) | (with_reducible refine Below.setCell ?_ ?_ _) | (with_reducible refine Below.alloc ?_ ?_ _) | go_size | omega | (simp; omega)))
end

/-- What Min answers, as the program's own. -/
theorem min_bad (A B : Option Addr) (ca cb : Nat) (a b : List Bk) (hla : a.length ≤ 1048576) (hba : ∀ x ∈ a, x.bd64) (hlb : b.length ≤ 1048576) (hbb : ∀ x ∈ b, x.bd64) (w : World) (hIa : SlR w.heap.size w (.slice A a.length ca) a) (hIb : SlR w.heap.size w (.slice B b.length cb) b) (hbad : (valC a && valC b) = false) :
    Calls Tryz.prog 20 #[.slice A a.length ca, .slice B b.length cb] w fun e w' => e = .returned (.tuple #[.slice none 0 0, .int .i64 2]) ∧ Below w.heap.size w w' := by
  have HV := valid_c A ca a hla hba w hIa
  have HT : Hid (∀ W : World, Below w.heap.size w W → _) := fun W hb => valid_c B cb b hlb hbb W ((hIb.below hb (Nat.le_refl _)).more hb.size)
  clear hIa hIb hba hbb
  generalize valC a = vc at hbad HV
  generalize valC b = va at hbad HT
  cases vc
  · go_enter Tryz.func20, Tryz.ntmps20
    go_wp2_with fail
    (with_reducible refine HV.mono ?_); rintro e w1 ⟨rfl, hb1⟩
    go_wp2
    go_ret2
    exact ⟨rfl, hb1⟩
  · obtain rfl : va = false := by simpa using hbad
    go_enter Tryz.func20, Tryz.ntmps20
    go_wp2_with fail
    (with_reducible refine HV.mono ?_); rintro e w1 ⟨rfl, hb1⟩
    have HT1 := HT.out _ hb1
    go_wp2_with fail
    (with_reducible refine HT1.mono ?_); rintro e w2 ⟨rfl, hb2⟩
    go_wp2
    go_ret2
    exact ⟨rfl, hb1.trans (hb2.mono hb1.size)⟩
def MinPost (a b : List Buck) (w : World) (e : Ending) (w' : World) : Prop :=
  ((normL (a ++ b)).length ≤ 32 → ∃ v, e = .returned (.tuple #[v, .int .i64 0]) ∧ OutS w' v (normL (a ++ b))) ∧ (32 < (normL (a ++ b)).length → e = .returned (.tuple #[.slice none 0 0, .int .i64 5])) ∧ Below w.heap.size w w'

set_option maxRecDepth 100000 in
set_option maxHeartbeats 4000000 in
theorem min_ok (A B : Option Addr) (ca cb : Nat) (a b : List Buck) (ha1 : 1 ≤ a.length) (ha2 : a.length ≤ 32) (hb1 : 1 ≤ b.length) (hb2 : b.length ≤ 32) (w : World) (hIa : Sl w.heap.size w (.slice A a.length ca) a) (hIb : Sl w.heap.size w (.slice B b.length cb) b) :
    Calls Tryz.prog 20 #[.slice A a.length ca, .slice B b.length cb] w (MinPost a b w) := by
  obtain ⟨i0, hi, hz0, hz1, hz2⟩ := info_parts infoB
  have HV := valid_ok ha1 ha2 hIa
  have HT : Hid (∀ W : World, Below w.heap.size w W → _) := fun W hb => valid_ok hb1 hb2 (W := W) ((hIb.below hb (Nat.le_refl _)).more hb.size)
  have HN : Hid (∀ (W : World) (g c' : Nat), OutS W (.slice (some ⟨g, 0, none⟩) (a.length + b.length) c') (a ++ b) → Calls Tryz.prog 14 #[.slice (some ⟨g, 0, none⟩) (a.length + b.length) c'] W fun e w' => ∃ v, e = .returned v ∧ OutS w' v (normL (a ++ b)) ∧ Below W.heap.size W w') := fun W g c' hS => by
    rw [← List.length_append] at hS ⊢
    exact norm_any _ c' (a ++ b) (by rw [List.length_append]; omega) W hS.sl
  obtain ⟨A', ca', e, hra⟩ := hIa
  simp only [Value.slice.injEq, true_and] at e
  obtain ⟨rfl, rfl⟩ := e
  obtain ⟨B', cb', e, hrb⟩ := hIb
  simp only [Value.slice.injEq, true_and] at e
  obtain ⟨rfl, rfl⟩ := e
  obtain ⟨ba, oa, rfl, hba, hra⟩ := hra (by intro h; subst h; simp at ha1)
  obtain ⟨bb, ob, rfl, hbb, hrb⟩ := hrb (by intro h; subst h; simp at hb1)
  have Hra := Lib.hid hra
  have Hrb := Lib.hid hrb
  have hca := Lib.hid (cellsOf_length a)
  have hcb := Lib.hid (cellsOf_length b)
  have hap := Lib.hid (cellsOf_append a b)
  clear hra hrb
  unfold MinPost
  obtain ⟨N, hNd⟩ : ∃ N, normL (a ++ b) = N := ⟨_, rfl⟩
  rw [hNd] at HN ⊢
  clear hNd
  go_enter Tryz.func20, Tryz.ntmps20
  go_wp2_with fail
  (with_reducible refine HV.mono ?_); rintro e w1 ⟨rfl, hB1⟩
  have HT1 := HT.out _ hB1
  clear HV HT
  go_wp2_with fail
  (with_reducible refine HT1.mono ?_); rintro e w2 ⟨rfl, hB2⟩
  replace hB2 := hB1.trans (hB2.mono hB1.size)
  have hS2 := hB2.size
  have own0 := own_empty (base := w2.heap.size) w2 80 4 w2.heap.size rfl (Nat.le_refl _)
  have hBE := hB2.alloc hB2.size (.cells #[] 80)
  have ra1 := Hra.out.below hBE hba
  have Own0 := Lib.hid own0
  have Ra1 := Lib.hid ra1
  have HB2 := Lib.hid hB2
  have HBE := Lib.hid hBE
  clear HT1 hB1 own0 ra1 hBE hB2
  go_wp2_with (at_builtin; first
    | (refine app_part _ rfl _ _ 23 rfl w2.heap.size 80 i0 _ 4 32 Tryz.underlying23 hi hz0 hz1 hz2 rfl (by decide) w2.heap.size 0 0 [] rfl Own0.out (.slice (some ⟨ba, oa, none⟩) a.length ca) a.length (cellsOf a) rfl (.inr ⟨_, _, rfl, row_cells Ra1.out⟩) hca.out (one_all a) (by unfold maxLen; omega) (by omega) (by simp) ?_; intro g1 cap1 w3 hown1 hgrow1
       have hB3 : Below w.heap.size w w3 := HBE.out.grown hgrow1 (by simp; omega) (fun j e => by cases e; exact hS2)
       have rb3 := Lib.hid (Hrb.out.below hB3 hbb)
       have hz3 : w2.heap.size ≤ w3.heap.size := (by have := hgrow1.size; simp at this; omega)
       simp only [Nat.zero_add, List.nil_append] at hown1 ⊢
       have Hown1 := Lib.hid hown1
       have HB3 := Lib.hid hB3
       clear hown1 hgrow1 hB3 Own0 Ra1)
    | (refine app_part _ rfl _ _ 23 rfl w2.heap.size 80 i0 _ 4 32 Tryz.underlying23 hi hz0 hz1 hz2 rfl (by decide) g1 a.length cap1 (cellsOf a) rfl Hown1.out (.slice (some ⟨bb, ob, none⟩) b.length cb) b.length (cellsOf b) rfl (.inr ⟨_, _, rfl, row_cells rb3.out⟩) hcb.out (one_all b) (by unfold maxLen; omega) (by omega) (by omega) ?_; intro g2 cap2 w4 hown2 hgrow2))
  have hB4 : Below w.heap.size w w4 := HB3.out.grown hgrow2 (by omega) (fun j e => by cases e; have := own_base4 Hown1.out; omega)
  have hOut := OutS.of_own' hown2 (M := a ++ b) (by rw [List.length_append]) hap.out.symm (by intro h; rw [List.append_eq_nil_iff] at h; rw [h.1] at ha1; simp at ha1)
  have HN1 := HN.out w4 g2 cap2 hOut
  have HB4 := Lib.hid hB4
  clear hown2 hgrow2 Hown1 hOut HN rb3 hB4
  go_wp2_with fail
  (with_reducible refine HN1.mono ?_); rintro e w5 ⟨v5, rfl, ho, hB5⟩
  replace hB5 := HB4.out.trans (hB5.mono HB4.out.size)
  obtain ⟨A5, c5, rfl⟩ := ho.form
  have hO := Lib.hid ho
  clear HN1 ho
  by_cases hn : 32 < N.length
  · have Hn := Lib.hid hn
    go_wp2
    go_ret2
    exact ⟨fun h => absurd Hn.out (Nat.not_lt.2 h), fun _ => rfl, hB5⟩
  · have hn' : N.length ≤ 32 := by omega
    have Hn := Lib.hid hn
    go_wp2
    go_ret2
    exact ⟨fun _ => ⟨.slice A5 N.length c5, rfl, hO.out⟩, fun h => absurd h Hn.out, hB5⟩
end Go.Proofs.YtbncfknjgldcbaaGreat.Ref
