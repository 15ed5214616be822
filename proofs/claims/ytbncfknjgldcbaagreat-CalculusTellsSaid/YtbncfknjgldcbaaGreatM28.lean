/- Merged texts: RAt. -/
import Derived.Test.YtbncfknjgldcbaaGreatM7
import Derived.BigGuardPart
import Derived.Deep.DeepCutAuto
import Derived.Deep.RegionWith
/- The reference's At. -/
namespace Go.Proofs.YtbncfknjgldcbaaGreat.Ref
open Go.RowKit Go.Joins Go.Shelf Go.Sort Num

section
variable (A : Option Addr) (cap : Nat)
set_option maxHeartbeats 1000000 in
theorem at_bad (c : List Bk) (tn td : Int) (hlen : c.length ≤ 1048576) (hbd : ∀ x ∈ c, x.bd64) (h1 : I64 tn) (h2 : I64 td) (w : World) (hI : SlR w.heap.size w (.slice A c.length cap) c) (hbad : (valC c && amtB tn td) = false) :
    Calls Tryz.prog 9 #[.slice A c.length cap, .agg #[.int .i64 tn, .int .i64 td]] w fun e w' => e = .returned (ratV (0, 0, 2)) ∧ Below w.heap.size w w' := by
  have HV : Hid (∀ W : World, Below w.heap.size w W → _) := fun W hb => valid_c A cap c hlen hbd W ((hI.below hb (Nat.le_refl _)).more hb.size)
  have HT : Hid (∀ W : World, _) := fun W => good_any tn td W h1.1 h1.2 h2.1 h2.2
  clear hI hbd
  simp only [ratV]
  generalize valC c = vc at hbad HV
  generalize amtB tn td = va at hbad HT
  cases vc
  · go_enter Tryz.func9, Tryz.ntmps9
    go_wp2_with fail
    refine (HV.out _ (((Below.refl _ w).alloc (Nat.le_refl _) _).alloc (by simp) _)).mono ?_; rintro e w1 ⟨rfl, hb1⟩
    obtain ⟨hc, hf⟩ := bcell hb1
    have hz := hb1.size
    simp only [World.size_alloc] at hc hf hz
    have hB : Below w.heap.size w w1 := (((Below.refl _ w).alloc (Nat.le_refl _) _).alloc (by simp) _).trans (hb1.mono (by simp; omega))
    go_wp2
    refine bodyPost_ret (v := ratV (0, 0, 2)) (by simp [results, Tryz.results9, go_sem, ratV, hc]) rfl ⟨rfl, ?_⟩
    (have hBs := hB.size; (try simp only [World.size_alloc] at hBs); repeat' (first | (with_reducible exact hB) | (with_reducible exact hBs) | (with_reducible refine Below.drew ?_) | (with_reducible refine below_drewN ?_ _) | (with_reducible refine Below.setCell ?_ ?_ _) | (with_reducible refine Below.alloc ?_ ?_ _) | go_size | omega | (simp; omega)))
  · obtain rfl : va = false := by simpa using hbad
    go_enter Tryz.func9, Tryz.ntmps9
    go_wp2_with fail
    refine (HV.out _ (((Below.refl _ w).alloc (Nat.le_refl _) _).alloc (by simp) _)).mono ?_; rintro e w1 ⟨rfl, hb1⟩
    obtain ⟨hc, hf⟩ := bcell hb1
    have hz := hb1.size
    simp only [World.size_alloc] at hc hf hz
    go_wp2_with fail
    refine (HT.out _).mono ?_; rintro e w2 ⟨rfl, hb2⟩
    replace hb2 := bnext hb1 hb2
    clear hc hf hz hb1
    obtain ⟨hc, hf⟩ := bcell hb2
    have hz := hb2.size
    simp only [World.size_alloc] at hc hf hz
    have hB : Below w.heap.size w w2 := (((Below.refl _ w).alloc (Nat.le_refl _) _).alloc (by simp) _).trans (hb2.mono (by simp; omega))
    go_wp2
    refine bodyPost_ret (v := ratV (0, 0, 2)) (by simp [results, Tryz.results9, go_sem, ratV, hc]) rfl ⟨rfl, ?_⟩
    (have hBs := hB.size; (try simp only [World.size_alloc] at hBs); repeat' (first | (with_reducible exact hB) | (with_reducible exact hBs) | (with_reducible refine Below.drew ?_) | (with_reducible refine below_drewN ?_ _) | (with_reducible refine Below.setCell ?_ ?_ _) | (with_reducible refine Below.alloc ?_ ?_ _) | go_size | omega | (simp; omega)))

set_option maxRecDepth 100000 in
set_option maxHeartbeats 8000000 in
theorem at_ok (c : List Buck) (t : Rat) (hl1 : 1 ≤ c.length) (hl2 : c.length ≤ 32) (ht : Fit t) (ht0 : 0 ≤ t) (w : World) (hI : Sl w.heap.size w (.slice A c.length cap) c) :
    Calls Tryz.prog 9 #[.slice A c.length cap, .agg #[.int .i64 t.num, .int .i64 t.den]] w fun e w' => e = .returned (ratV (atV c t)) ∧ Below w.heap.size w w' := by
  have HV : Hid (∀ W : World, Below w.heap.size w W → Calls Tryz.prog 13 #[.slice A c.length cap] W fun e w' => e = .returned (.bool true) ∧ Below W.heap.size W w') := fun W hb => valid_ok hl1 hl2 ((hI.below hb (Nat.le_refl _)).more hb.size)
  have HT : Hid (∀ W : World, _) := fun W => good_ok ht ht0 W
  have HX : Hid (∀ (x : Buck) (W : World), _) := fun x W => value_r x.hb x.hr ht W
  obtain ⟨A', cap', e, hrow⟩ := hI
  simp only [Value.slice.injEq, true_and] at e
  obtain ⟨rfl, rfl⟩ := e
  obtain ⟨b, off, rfl, hb, hr⟩ := hrow (by intro h; subst h; simp at hl1)
  clear hrow ht ht0
  generalize htn : t.num = tn at HT HX
  generalize htd : (t.den : Int) = td at HT HX
  clear htn htd
  go_enter Tryz.func9, Tryz.ntmps9
  go_wp2_with fail
  refine (HV.out _ (((Below.refl _ w).alloc (Nat.le_refl _) _).alloc (by simp) _)).mono ?_; rintro e w1 ⟨rfl, hb1⟩
  obtain ⟨hc, hf⟩ := bcell hb1
  have hz := hb1.size
  simp only [World.size_alloc] at hc hf hz
  go_wp2_with fail
  refine (HT.out _).mono ?_; rintro e w2 ⟨rfl, hb2⟩
  replace hb2 := bnext hb1 hb2
  clear hc hf hz hb1
  have bT : BoxN w2 w.heap.size 25 #[.int .i64 tn, .int .i64 td] := ((BoxN.new w _ _).alloc _).below hb2 (by simp; omega)
  have bR : BoxN w2 (w.heap.size + 1) 25 #[.int .i64 0, .int .i64 0] := by
    have := (BoxN.new (w.alloc (.cells #[.int .i64 tn, .int .i64 td] 25)) 25 #[.int .i64 0, .int .i64 0]).below hb2 (by simp)
    simpa using this
  have hB2 : Below w.heap.size w w2 := (((Below.refl _ w).alloc (Nat.le_refl _) _).alloc (by simp) _).trans (hb2.mono (by simp; omega))
  clear hb2 HV HT
  have hbt := Nat.lt_of_lt_of_le hb hB2.size
  go_wp2_with fail
  have bM0 := BoxN.new w2 25 #[.int .i64 0, .int .i64 0]
  go_loopw [7] (fun i wr => ∃ (k : Nat) (mn md : Int), k ≤ c.length ∧ i = .int .i64 k ∧ (∀ x ∈ c.take k, okv x t) ∧ (k = 0 ∨ mn = (minV (c.take k) t).num ∧ md = (minV (c.take k) t).den) ∧ BoxN wr w2.heap.size 25 #[.int .i64 mn, .int .i64 md] ∧ Below w2.heap.size w2 wr)
    (fun i _ => c.length - (intOf i).toNat)
  case atStart => exact ⟨0, 0, 0, Nat.zero_le _, rfl, by simp, .inl rfl, bM0, (Below.refl _ _).alloc (Nat.le_refl _) _⟩
  case round =>
    clear bM0
    obtain ⟨k, mn, md, hk, rfl, hall, hm, bM, hBr⟩ := hrel
    by_cases hlt : k < c.length
    · have hx : c[k]? = some c[k] := List.getElem?_eq_getElem hlt
      obtain ⟨x, hxe⟩ : ∃ x, c[k] = x := ⟨_, rfl⟩
      rw [hxe] at hx
      have hts := take_succ' hx
      have hmem : x ∈ c := List.mem_of_getElem? hx
      obtain ⟨c0, c1, c2, c3⟩ := (hr.below hB2 hb).below hBr hbt k x hx
      have hz2 : w.heap.size + 1 < w2.heap.size := bR.lt
      have hwz := hBr.size
      have bT1 := bT.below hBr (by omega)
      have t0 : wr.cell? ⟨w.heap.size, 0, none⟩ = some (.int .i64 tn) := bT1.cell 0
      have t1 : wr.cell? ⟨w.heap.size, 1, none⟩ = some (.int .i64 td) := bT1.cell 1
      have kT : w.heap.size < wr.heap.size := by omega
      have kB : b < wr.heap.size := by omega
      have HXx := HX.out x
      obtain ⟨rv, hrv⟩ : ∃ rv, valV x.b x.r t = rv := ⟨_, rfl⟩
      rw [hrv] at HXx
      obtain ⟨vn, vd, ve⟩ := rv
      simp only [ratV] at HXx
      have HXx := Lib.hid HXx
      have Hrv := Lib.hid hrv
      have Hts := Lib.hid hts
      have Hall := Lib.hid hall
      have Hm := Lib.hid hm
      have Hmem := Lib.hid hmem
      have HbM := Lib.hid bM
      clear HX hx hxe hrv hts hall hm hmem bM bT1
      go_wp2_with fail
      go_cut [8, 9] (fun s8 s9 wx => ∃ g : Nat, s8 = .pointer (some ⟨g, 0, none⟩) ∧ s9 = .int .i64 ve ∧ wr.heap.size ≤ g ∧ Has wx g vn vd ∧ Below wr.heap.size wr wx)
      case first =>
        go_region_with (first
          | (go_at_call 52; (with_reducible refine (HXx.out _).mono ?_); rintro e v1 ⟨rfl, hbn⟩; obtain ⟨hcn, hfn⟩ := bcell hbn; have hzn := hbn.size; (try simp only [World.size_alloc, World.size_drew] at hcn); (try simp only [World.size_alloc, World.size_drew] at hfn); (try simp only [World.size_alloc, World.size_drew] at hzn); (try have hkn : wr.heap.size < v1.heap.size := by omega)))
        all_goals
          go_wp2_with fail
          go_meet
          refine ⟨_, rfl, rfl, ?_, ⟨?_, ?_, ?_⟩, ?_⟩
          · first | omega | exact Nat.le_refl _
          · first | omega | (simp; done) | (simp; omega)
          · go_simp
          · go_simp
          · (repeat' (first | (with_reducible exact Below.refl _ _) | (with_reducible refine Below.setCell ?_ ?_ _) | (with_reducible refine Below.alloc ?_ ?_ _) | (with_reducible refine Below.drew ?_) | (with_reducible refine Below.trans ?_ (hbn.mono ?_)) | omega | (simp; done) | (simp; omega)))
      case rest =>
        obtain ⟨g, rfl, rfl, hg, hV, hbw⟩ := hcut
        have hBx : Below w2.heap.size w2 wc := hBr.trans (hbw.mono hwz)
        have bM3 := HbM.out.below hbw HbM.out.lt
        have bR3 := (bR.below hBr bR.lt).below hbw (by omega)
        have m0 : wc.cell? ⟨w2.heap.size, 0, none⟩ = some (.int .i64 mn) := bM3.cell 0
        have m1 : wc.cell? ⟨w2.heap.size, 1, none⟩ = some (.int .i64 md) := bM3.cell 1
        have v0 := hV.c0
        have v1 := hV.c1
        have kM : w2.heap.size < wc.heap.size := bM3.lt
        have kg := hV.lt
        have kz := hbw.size
        have kM2 := HbM.out.lt
        have f0 := bM3.frozen 0
        have f1 := bM3.frozen 1
        clear c0 c1 c2 c3 t0 t1 HXx
        by_cases hok : okv x t
        · have hfv : Fit (valQ x t) := hok.2
          have he := Hrv.out
          rw [valV_ok hok] at he
          simp only [Prod.mk.injEq] at he
          obtain ⟨e1, e2, rfl⟩ := he
          have hall2 : Hid (∀ y ∈ c.take (k + 1), okv y t) := by
            intro y hy
            rw [Hts.out, List.mem_append] at hy
            rcases hy with hy | hy
            · exact Hall.out y hy
            · simp at hy; subst hy; exact hok
          by_cases hk0 : k = 0
          · subst hk0
            have hmin : Hid (minV (c.take (0 + 1)) t = valQ x t) := by unfold Hid; rw [Hts.out]; simp [minV]
            have He1 := Lib.hid e1
            have He2 := Lib.hid e2
            clear e1 e2 Hts Hall Hm
            go_wp2
            go_roundw
            case rel => exact ⟨1, vn, vd, hl1, by go_num, hall2.out, .inr ⟨by rw [hmin.out, He1.out], by rw [hmin.out, He2.out]⟩, bM3.set2 _ _, (hBx.setCell (p := ⟨w2.heap.size, 0, none⟩) (Nat.le_refl _) _).setCell (p := ⟨w2.heap.size, 1, none⟩) (Nat.le_refl _) _⟩
            case measure => simp [intOf]; omega
          · have hkm : c.take k ≠ [] := by intro h; rw [List.take_eq_nil_iff] at h; rcases h with h | h; exact hk0 h; subst h; simp at hlt
            have hmin : Hid (minV (c.take (k + 1)) t = minStep t (minV (c.take k) t) x) := by unfold Hid; rw [Hts.out, minV_snoc _ _ _ hkm]
            have hfm := minV_fit Hall.out hkm
            have HC : ∀ W : World, _ := fun W => cmp_r hfv hfm W
            have hcq := @cmpQ_neg (valQ x t) (minV (c.take k) t)
            obtain ⟨cq, hcqe⟩ : ∃ cq, cmpQ (valQ x t) (minV (c.take k) t) = cq := ⟨_, rfl⟩
            rw [hcqe] at HC hcq
            have hm' : mn = (minV (c.take k) t).num ∧ md = (minV (c.take k) t).den := by
              rcases Hm.out with h | h
              · exact absurd h hk0
              · exact h
            rw [← hm'.1, ← hm'.2, e1, e2] at HC
            have hk0b : ((k : Int) == 0) = false := by simp [hk0]
            have HC := Lib.hid HC
            have He1 := Lib.hid e1
            have He2 := Lib.hid e2
            have Hm' := Lib.hid hm'
            have hk1 : k + 1 ≤ c.length := hlt
            have Hcq : Hid (cq < 0 ↔ valQ x t < minV (c.take k) t) := hcq
            clear e1 e2 hm' Hm Hts Hall hcq hcqe hkm hfm hk0
            go_wp2_with fail
            refine (HC.out _).mono ?_; rintro e w5 ⟨rfl, hb5⟩
            have bM5 := bM3.below hb5 bM3.lt
            have hV5 := hV.keep hb5
            have hB5 : Below w2.heap.size w2 w5 := hBx.trans (hb5.mono hBx.size)
            have v0' := hV5.c0
            have v1' := hV5.c1
            have kg' := hV5.lt
            have n0 : w5.cell? ⟨w2.heap.size, 0, none⟩ = some (.int .i64 mn) := bM5.cell 0
            have n1 : w5.cell? ⟨w2.heap.size, 1, none⟩ = some (.int .i64 md) := bM5.cell 1
            have f0' := bM5.frozen 0
            have f1' := bM5.frozen 1
            have kM' := bM5.lt
            clear m0 m1 v0 v1 f0 f1 hb5 hV
            by_cases hq : cq < 0
            · have hlq : Hid (valQ x t < minV (c.take k) t) := Hcq.out.1 hq
              go_wp2
              go_roundw
              case rel => exact ⟨k + 1, vn, vd, hk1, by go_num, hall2.out, .inr ⟨by rw [hmin.out, minStep, if_pos hlq.out, He1.out], by rw [hmin.out, minStep, if_pos hlq.out, He2.out]⟩, bM5.set2 _ _, (hB5.setCell (p := ⟨w2.heap.size, 0, none⟩) (Nat.le_refl _) _).setCell (p := ⟨w2.heap.size, 1, none⟩) (Nat.le_refl _) _⟩
              case measure => simp [intOf]; omega
            · have hlq : Hid (¬ valQ x t < minV (c.take k) t) := fun h => hq (Hcq.out.2 h)
              go_wp2
              go_roundw
              case rel => exact ⟨k + 1, mn, md, hk1, by go_num, hall2.out, .inr ⟨by rw [hmin.out, minStep, if_neg hlq.out]; exact Hm'.out.1, by rw [hmin.out, minStep, if_neg hlq.out]; exact Hm'.out.2⟩, bM5, hB5⟩
              case measure => simp [intOf]; omega
        · have hno : Hid (atV c t = (0, 0, 3)) := if_neg fun h => hok (h x Hmem.out)
          have he := Hrv.out
          rw [valV_no hok] at he
          simp only [Prod.mk.injEq] at he
          obtain ⟨rfl, rfl, rfl⟩ := he
          have r0 : wc.cell? ⟨w.heap.size + 1, 0, none⟩ = some (.int .i64 0) := bR3.cell 0
          have r1 : wc.cell? ⟨w.heap.size + 1, 1, none⟩ = some (.int .i64 0) := bR3.cell 1
          have fr0 := bR3.frozen 0
          have fr1 := bR3.frozen 1
          have kR := bR3.lt
          have hB : Below w.heap.size w wc := hB2.trans (hBx.mono hB2.size)
          clear m0 m1 v0 v1 f0 f1 Hm Hts Hall
          go_wp2
          refine bodyPost_ret (v := ratV (0, 0, 3)) (by simp [results, Tryz.results9, go_sem, ratV, r0, r1]) rfl ⟨by rw [hno.out], ?_⟩
          (have hBs := hB.size; (try simp only [World.size_alloc] at hBs); repeat' (first | (with_reducible exact hB) | (with_reducible exact hBs) | (with_reducible refine Below.drew ?_) | (with_reducible refine below_drewN ?_ _) | (with_reducible refine Below.setCell ?_ ?_ _) | (with_reducible refine Below.alloc ?_ ?_ _) | go_size | omega | (simp; omega)))
    · obtain rfl : k = c.length := by omega
      rw [List.take_length] at hall hm
      have hm' : mn = (minV c t).num ∧ md = (minV c t).den := by
        rcases hm with h | h
        · omega
        · exact h
      have hz2 : w.heap.size + 1 < w2.heap.size := bR.lt
      have hres : Hid (atV c t = (mn, md, 0)) := by unfold Hid atV; rw [if_pos hall, hm'.1, hm'.2]
      have m0 : wr.cell? ⟨w2.heap.size, 0, none⟩ = some (.int .i64 mn) := bM.cell 0
      have m1 : wr.cell? ⟨w2.heap.size, 1, none⟩ = some (.int .i64 md) := bM.cell 1
      have bR1 := bR.below hBr (by omega)
      have r0 : wr.cell? ⟨w.heap.size + 1, 0, none⟩ = some (.int .i64 0) := bR1.cell 0
      have r1 : wr.cell? ⟨w.heap.size + 1, 1, none⟩ = some (.int .i64 0) := bR1.cell 1
      have f0 := bR1.frozen 0
      have f1 := bR1.frozen 1
      have hB : Below w.heap.size w wr := hB2.trans (hBr.mono hB2.size)
      clear hm hm' hall
      go_wp2_with fail
      refine bodyPost_ret (v := ratV (mn, md, 0)) (by simp [results, Tryz.results9, go_sem, ratV, r0, r1]) rfl ⟨by rw [hres.out], ?_⟩
      (have hBs := hB.size; (try simp only [World.size_alloc] at hBs); repeat' (first | (with_reducible exact hB) | (with_reducible exact hBs) | (with_reducible refine Below.drew ?_) | (with_reducible refine below_drewN ?_ _) | (with_reducible refine Below.setCell ?_ ?_ _) | (with_reducible refine Below.alloc ?_ ?_ _) | go_size | omega | (simp; omega)))
end
end Go.Proofs.YtbncfknjgldcbaaGreat.Ref
