/- Merged texts: RShift. -/
import Derived.Test.YtbncfknjgldcbaaGreatM9
import Derived.BigGuardPart
import Derived.Deep.DeepCutAuto
import Derived.Deep.RegionWith
/- The reference's Shift. -/
namespace Go.Proofs.YtbncfknjgldcbaaGreat.Ref
open Go.RowKit Go.Joins Go.Shelf Go.Sort Num

theorem news_new (W : World) (cs : Array Value) (t : TypeId) (h : Nat) (hh : W.heap.size = h) : ∀ j u, cs.toList[j]? = some u → (W.alloc (.cells cs t)).drew.cell? ((⟨h, 0, none⟩ : Addr).add j) = some u := by
  subst hh
  exact World.news_of_block (w := (W.alloc (.cells cs t)).drew) (heap_alloc_new W _)
def ShiftPost (c : List Buck) (t : Rat) (w : World) (e : Ending) (w' : World) : Prop :=
  ((∀ x ∈ c, okv x t) → ∃ v, e = .returned (.tuple #[v, .int .i64 0]) ∧ OutS w' v (normL (c.map (shiftB t)))) ∧ ((¬ ∀ x ∈ c, okv x t) → e = .returned (.tuple #[.slice none 0 0, .int .i64 3])) ∧ Below w.heap.size w w'

section
variable (A : Option Addr) (cap : Nat)
set_option maxHeartbeats 1000000 in
theorem shift_bad (c : List Bk) (tn td : Int) (hlen : c.length ≤ 1048576) (hbd : ∀ x ∈ c, x.bd64) (h1 : I64 tn) (h2 : I64 td) (w : World) (hI : SlR w.heap.size w (.slice A c.length cap) c) (hbad : (valC c && amtB tn td) = false) :
    Calls Tryz.prog 22 #[.slice A c.length cap, .agg #[.int .i64 tn, .int .i64 td]] w fun e w' => e = .returned (.tuple #[.slice none 0 0, .int .i64 2]) ∧ Below w.heap.size w w' := by
  have HV : Hid (∀ W : World, Below w.heap.size w W → _) := fun W hb => valid_c A cap c hlen hbd W ((hI.below hb (Nat.le_refl _)).more hb.size)
  have HT : Hid (∀ W : World, _) := fun W => good_any tn td W h1.1 h1.2 h2.1 h2.2
  clear hI hbd
  generalize valC c = vc at hbad HV
  generalize amtB tn td = va at hbad HT
  have hB0 := (Below.refl w.heap.size w).alloc (Nat.le_refl _) (.cells #[.int .i64 tn, .int .i64 td] 25)
  cases vc
  · go_enter Tryz.func22, Tryz.ntmps22
    go_wp2_with fail
    refine (HV.out _ hB0).mono ?_; rintro e w1 ⟨rfl, hb1⟩
    go_wp2
    go_ret2
    exact ⟨rfl, hB0.trans (hb1.mono hB0.size)⟩
  · obtain rfl : va = false := by simpa using hbad
    go_enter Tryz.func22, Tryz.ntmps22
    go_wp2_with fail
    refine (HV.out _ hB0).mono ?_; rintro e w1 ⟨rfl, hb1⟩
    obtain ⟨hc, hf⟩ := bcell hb1
    have hz := hb1.size
    simp only [World.size_alloc] at hc hf hz
    go_wp2_with fail
    refine (HT.out _).mono ?_; rintro e w2 ⟨rfl, hb2⟩
    go_wp2
    go_ret2
    exact ⟨rfl, hB0.trans ((bnext hb1 hb2).mono hB0.size)⟩

set_option maxRecDepth 100000 in
set_option maxHeartbeats 8000000 in
theorem shift_ok (c : List Buck) (t : Rat) (hl1 : 1 ≤ c.length) (hl2 : c.length ≤ 32) (ht : Fit t) (ht0 : 0 ≤ t) (w : World) (hI : Sl w.heap.size w (.slice A c.length cap) c) :
    Calls Tryz.prog 22 #[.slice A c.length cap, .agg #[.int .i64 t.num, .int .i64 t.den]] w (ShiftPost c t w) := by
  obtain ⟨i0, hi, hz0, hz1, hz2⟩ := info_parts infoB
  have Ht0 := Lib.hid ht0
  have HV : Hid (∀ W : World, Below w.heap.size w W → Calls Tryz.prog 13 #[.slice A c.length cap] W fun e w' => e = .returned (.bool true) ∧ Below W.heap.size W w') := fun W hb => valid_ok hl1 hl2 ((hI.below hb (Nat.le_refl _)).more hb.size)
  have HT : Hid (∀ W : World, _) := fun W => good_ok ht ht0 W
  have HX : Hid (∀ (x : Buck) (W : World), _) := fun x W => value_r x.hb x.hr ht W
  obtain ⟨A', cap', e, hrow⟩ := hI
  simp only [Value.slice.injEq, true_and] at e
  obtain ⟨rfl, rfl⟩ := e
  obtain ⟨b, off, rfl, hb, hr⟩ := hrow (by intro h; subst h; simp at hl1)
  clear hrow ht ht0
  generalize htn : t.num = tn at HT HX
  generalize htd : (t.den : Int) = td at HT HX
  clear htn htd
  go_enter Tryz.func22, Tryz.ntmps22
  go_wp2_with fail
  refine (HV.out _ ((Below.refl _ w).alloc (Nat.le_refl _) _)).mono ?_; rintro e w1 ⟨rfl, hb1⟩
  obtain ⟨hc, hf⟩ := bcell hb1
  have hz := hb1.size
  simp only [World.size_alloc] at hc hf hz
  go_wp2_with fail
  refine (HT.out _).mono ?_; rintro e w2 ⟨rfl, hb2⟩
  replace hb2 := bnext hb1 hb2
  clear hc hf hz hb1
  have bT : BoxN w2 w.heap.size 25 #[.int .i64 tn, .int .i64 td] := (BoxN.new w _ _).below hb2 (by simp)
  have hB2 : Below w.heap.size w w2 := ((Below.refl _ w).alloc (Nat.le_refl _) _).trans (hb2.mono (by simp))
  clear hb2 HV HT
  have hbt := Nat.lt_of_lt_of_le hb hB2.size
  have hzt := bT.lt
  unfold ShiftPost
  go_wp2_with fail
  go_loopw [6, 7] (fun v i wr => ∃ k : Nat, k ≤ c.length ∧ i = .int .i64 k ∧ (∀ x ∈ c.take k, okv x t) ∧ Own4 w2.heap.size wr v ((c.take k).map (shiftB t)) ∧ Below w2.heap.size w2 wr)
    (fun _ i _ => c.length - (intOf i).toNat)
  case atStart => exact ⟨0, Nat.zero_le _, rfl, by simp, ⟨World.ownsRow_nil _ _ _ _, by simp⟩, Below.refl _ _⟩
  case round =>
    obtain ⟨k, hk, rfl, hall, hown, hBr⟩ := hrel
    obtain ⟨Av, cv, hvf⟩ := hown.form
    have hacl : ((c.take k).map (shiftB t)).length = k := by simp; omega
    rw [hacl] at hvf
    subst hvf
    by_cases hlt : k < c.length
    · have hx : c[k]? = some c[k] := List.getElem?_eq_getElem hlt
      obtain ⟨x, hxe⟩ : ∃ x, c[k] = x := ⟨_, rfl⟩
      rw [hxe] at hx
      have hts := take_succ' hx
      have hmem : x ∈ c := List.mem_of_getElem? hx
      have hrow := (hr.below hB2 hb).below hBr hbt
      obtain ⟨c0, c1, c2, c3⟩ := hrow k x hx
      have hwz := hBr.size
      have bT1 := bT.below hBr hzt
      have t0 : wr.cell? ⟨w.heap.size, 0, none⟩ = some (.int .i64 tn) := bT1.cell 0
      have t1 : wr.cell? ⟨w.heap.size, 1, none⟩ = some (.int .i64 td) := bT1.cell 1
      have kT : w.heap.size < wr.heap.size := by omega
      have kB : b < wr.heap.size := by omega
      have HXx := HX.out x
      obtain ⟨rv, hrv⟩ : ∃ rv, valV x.b x.r t = rv := ⟨_, rfl⟩
      rw [hrv] at HXx
      obtain ⟨vn, vd, ve⟩ := rv
      simp only [ratV] at HXx
      have HXx := Lib.hid HXx
      have Hrv := Lib.hid hrv
      have Hts := Lib.hid hts
      have Hall := Lib.hid hall
      have Hmem := Lib.hid hmem
      have Hown := Lib.hid hown
      have Hrow := Lib.hid hrow
      have Hx := Lib.hid hx
      have Hacl := Lib.hid hacl
      clear HX hx hxe hrv hts hall hmem hown bT1 hrow hacl
      go_wp2_with fail
      go_cut [8, 9] (fun s8 s9 wx => ∃ g : Nat, s8 = .pointer (some ⟨g, 0, none⟩) ∧ s9 = .int .i64 ve ∧ wr.heap.size ≤ g ∧ Has wx g vn vd ∧ Below wr.heap.size wr wx)
      case first =>
        go_region_with (first
          | (go_at_call 52; (with_reducible refine (HXx.out _).mono ?_); rintro e v1 ⟨rfl, hbn⟩; obtain ⟨hcn, hfn⟩ := bcell hbn; have hzn := hbn.size; (try simp only [World.size_alloc, World.size_drew] at hcn); (try simp only [World.size_alloc, World.size_drew] at hfn); (try simp only [World.size_alloc, World.size_drew] at hzn); (try have hkn : wr.heap.size < v1.heap.size := by omega)))
        all_goals
          go_wp2_with fail
          go_meet
          refine ⟨_, rfl, rfl, ?_, ⟨?_, ?_, ?_⟩, ?_⟩
          · first | omega | exact Nat.le_refl _
          · first | omega | (simp; done) | (simp; omega)
          · go_simp
          · go_simp
          · (repeat' (first | (with_reducible exact Below.refl _ _) | (with_reducible refine Below.setCell ?_ ?_ _) | (with_reducible refine Below.alloc ?_ ?_ _) | (with_reducible refine Below.drew ?_) | (with_reducible refine Below.trans ?_ (hbn.mono ?_)) | omega | (simp; done) | (simp; omega)))
      case rest =>
        obtain ⟨g, rfl, rfl, hg, hV, hbw⟩ := hcut
        have hBx : Below w2.heap.size w2 wc := hBr.trans (hbw.mono hwz)
        have v0 := hV.c0
        have v1 := hV.c1
        have kg := hV.lt
        have kz := hbw.size
        obtain ⟨_, _, x2, x3⟩ := Hrow.out.below hbw kB k x Hx.out
        have kB2 : b < wc.heap.size := by omega
        clear c0 c1 c2 c3 t0 t1 HXx
        by_cases hok : okv x t
        · have he := Hrv.out
          rw [valV_ok hok] at he
          simp only [Prod.mk.injEq] at he
          obtain ⟨e1, e2, rfl⟩ := he
          have hall2 : Hid (∀ y ∈ c.take (k + 1), okv y t) := by
            intro y hy
            rw [Hts.out, List.mem_append] at hy
            rcases hy with hy | hy
            · exact Hall.out y hy
            · simp at hy; subst hy; exact hok
          have hmp : Hid ((c.take (k + 1)).map (shiftB t) = (c.take k).map (shiftB t) ++ [shiftB t x]) := by unfold Hid; rw [Hts.out]; simp
          have hsn := cellsOf_snoc ((c.take k).map (shiftB t)) (shiftB t x)
          rw [shift_cells Ht0.out hok, e1, e2] at hsn
          have hSn := Lib.hid hsn
          have ho := (own_below Hown.out.1 hbw)
          rw [Hacl.out] at ho
          have Ho := Lib.hid ho
          obtain ⟨acc, hacc⟩ : ∃ acc, (c.take k).map (shiftB t) = acc := ⟨_, rfl⟩
          rw [hacc] at Ho hSn hmp Hacl
          have hone : Hid (∀ u ∈ [Value.int .i64 vn, .int .i64 vd, .int .i64 x.r.num, .int .i64 x.r.den], u.oneCell' = true) := by
            intro u hu
            simp only [List.mem_cons, List.not_mem_nil, or_false] at hu
            rcases hu with rfl | rfl | rfl | rfl <;> rfl
          have hm1 := Lib.hid (show k + 1 ≤ maxLen by unfold maxLen; omega)
          have hy1 := Lib.hid (show (k + 1) * 32 ≤ 140737488355328 by omega)
          have hwb : w2.heap.size ≤ wc.heap.size := by omega
          clear hsn ho hacc e1 e2 hok Hts Hall
          go_wp2_with fail
          go_region_law (first | (refine step_append_lies _ rfl (.tmp 36) (.tmp 44) 23 rfl w2.heap.size 80 i0 _ 4 32 Tryz.underlying23 hi hz0 hz1 hz2 rfl (by decide) (.slice Av k cv) k (cellsOf acc) ?_ (World.ownsRow.drew (Ho.out.alloc _)) ⟨wc.heap.size, 0, none⟩ 1 1 [.int .i64 vn, .int .i64 vd, .int .i64 x.r.num, .int .i64 x.r.den] ?_ rfl (news_new wc #[.int .i64 vn, .int .i64 vd, .int .i64 x.r.num, .int .i64 x.r.den] 80 _ rfl) hone.out (by decide) hm1.out hy1.out ?_ _ rfl ?_; (simp [Act.eval] <;> fail); (simp [Act.eval] <;> fail); (first | omega | (simp <;> fail) | (simp; omega)); intro g5 cap5 w5 hown5 hgrow5 hat5 hlt5))
          all_goals
            have hB5 : Below w2.heap.size w2 w5 := Below.grown (by refine Below.drew ?_; exact hBx.alloc hwb _) hgrow5 (by first | omega | (simp; omega)) (fun j e => own_block_le Ho.out e)
            have HB5 := Lib.hid hB5
            have Hown5 := Lib.hid hown5
            clear hown5 hgrow5 hat5 hB5 v0 v1 x2 x3
            go_wp2
            go_roundw
            case rel => exact ⟨k + 1, hlt, by go_num, hall2.out, by rw [hmp.out]; exact ⟨by rw [hSn.out, List.length_append, Hacl.out]; exact Hown5.out, by simp⟩, HB5.out⟩
            case measure => simp [intOf]; omega
        · have hno : Hid (¬ ∀ y ∈ c, okv y t) := fun h => hok (h x Hmem.out)
          have he := Hrv.out
          rw [valV_no hok] at he
          simp only [Prod.mk.injEq] at he
          obtain ⟨rfl, rfl, rfl⟩ := he
          have hB : Below w.heap.size w wc := hB2.trans (hBx.mono hB2.size)
          clear v0 v1 x2 x3 Hts Hall
          go_wp2
          go_ret2
          exact ⟨fun h => absurd h hno.out, fun _ => rfl, hB⟩
    · obtain rfl : k = c.length := by omega
      rw [List.take_length] at hall hown hacl
      have hN := norm_any Av cv (c.map (shiftB t)) (by simp; omega) wr (by have := hown.sl; rw [← hacl] at this; exact this)
      simp only [List.length_map] at hN
      have hB5 := Lib.hid (hB2.trans (hBr.mono hB2.size))
      have hall := Lib.hid hall
      clear hown
      go_wp2_with fail
      (with_reducible refine hN.mono ?_); rintro e w3 ⟨v, rfl, h1, h3⟩
      have hO := Lib.hid h1
      have hB6 := hB5.out.trans (h3.mono hB5.out.size)
      clear h1 hN
      go_wp2
      go_ret2
      exact ⟨fun _ => ⟨v, rfl, hO.out⟩, fun h => absurd hall.out h, hB6⟩
end
end Go.Proofs.YtbncfknjgldcbaaGreat.Ref
