/- curve.Shift. -/
import Derived.Test.YtaanhddgmiggfaaGreatNorm
namespace Go.Proofs.YtaanhddgmiggfaaGreat
open Go.RowKit Go.Joins Go.Shelf Go.Sort Num

def ShiftPost (c : List Buck) (t : Rat) (w : World) (e : Ending) (w' : World) : Prop :=
  ((∀ x ∈ c, okv x t) → ∃ v, e = .returned (.tuple #[v, .int .i64 0]) ∧ Own4 w.heap.size w' v (normL (c.map (shiftB t)))) ∧ ((¬ ∀ x ∈ c, okv x t) → e = .returned (.tuple #[.slice none 0 0, .int .i64 3])) ∧ Below w.heap.size w w'

theorem own_block {w : World} {base : Nat} {e : TypeId} {size n : Nat} {v : Value} {xs : List Value} (h : w.ownsRow base e size v n xs) : v = .slice none 0 0 ∨ ∃ g, v.ownBlock = some g ∧ base ≤ g ∧ g < w.heap.size := by
  rcases h.2 with ⟨h, _⟩ | ⟨g', cap', cur, e1, e2, e3, _⟩
  · exact .inl h
  · subst e1
    exact .inr ⟨g', rfl, e2, (Array.getElem?_eq_some_iff.1 e3).1⟩
theorem own_block_le {w : World} {base : Nat} {e : TypeId} {size n : Nat} {v : Value} {xs : List Value} (h : w.ownsRow base e size v n xs) {j : Nat} (hj : v.ownBlock = some j) : base ≤ j := by
  rcases own_block h with rfl | ⟨g, h1, h2, _⟩
  · cases hj
  · rw [h1] at hj; cases hj; exact h2

section
variable (A : Option Addr) (cap : Nat)
set_option maxHeartbeats 1000000 in
theorem shift_bad (c : List Bk) (tn td : Int) (hlen : c.length ≤ 1048576) (hbd : ∀ x ∈ c, x.bd64) (h1 : I64 tn) (h2 : I64 td) (w : World) (hI : SlR w.heap.size w (.slice A c.length cap) c) (hbad : (valC c && amtB tn td) = false) :
    Calls Tryz.prog 25 #[.slice A c.length cap, .agg #[.int .i64 tn, .int .i64 td]] w fun e w' => e = .returned (.tuple #[.slice none 0 0, .int .i64 2]) ∧ Below w.heap.size w w' := by
  have HV : Hid (∀ W : World, Below w.heap.size w W → _) := fun W hb => valid_c A cap c hlen hbd W ((hI.below hb (Nat.le_refl _)).more hb.size)
  have HT : Hid (∀ W : World, _) := fun W => amount_any tn td W h1.1 h1.2 h2.1 h2.2
  clear hI hbd
  generalize valC c = vc at hbad HV
  generalize amtB tn td = va at hbad HT
  have hB0 := (Below.refl w.heap.size w).alloc (Nat.le_refl _) (.cells #[.int .i64 tn, .int .i64 td] 25)
  cases vc
  · go_enter Tryz.func25, Tryz.ntmps25
    go_wp2_with fail
    refine (HV.out _ hB0).mono ?_; rintro e w1 ⟨rfl, hb1⟩
    go_wp2
    go_ret2
    exact ⟨rfl, hB0.trans (hb1.mono hB0.size)⟩
  · obtain rfl : va = false := by simpa using hbad
    go_enter Tryz.func25, Tryz.ntmps25
    go_wp2_with fail
    refine (HV.out _ hB0).mono ?_; rintro e w1 ⟨rfl, hb1⟩
    obtain ⟨hc, hf⟩ := bcell hb1
    have hz := hb1.size
    simp only [World.size_alloc] at hc hf hz
    go_wp2_with fail
    refine (HT.out _).mono ?_; rintro e w2 ⟨rfl, hb2⟩
    go_wp2
    go_ret2
    exact ⟨rfl, hB0.trans ((bnext hb1 hb2.b).mono hB0.size)⟩

set_option maxRecDepth 100000 in
set_option maxHeartbeats 4000000 in
theorem shift_ok (c : List Buck) (t : Rat) (hl1 : 1 ≤ c.length) (hl2 : c.length ≤ 32) (ht : Fit t) (ht0 : 0 ≤ t) (w : World) (hI : Sl w.heap.size w (.slice A c.length cap) c) :
    Calls Tryz.prog 25 #[.slice A c.length cap, .agg #[.int .i64 t.num, .int .i64 t.den]] w (ShiftPost c t w) := by
  obtain ⟨i0, hi, hz0, hz1, hz2⟩ := info_parts infoB
  have hB0 := (Below.refl w.heap.size w).alloc (Nat.le_refl _) (.cells #[.int .i64 t.num, .int .i64 t.den] 25)
  have HV := valid_ok hl1 hl2 ((hI.below hB0 (Nat.le_refl _)).more hB0.size)
  have HT : Hid (∀ W : World, _) := fun W => amount_ok ht ht0 W
  have HX : Hid (∀ (x : Buck) (W : World), _) := fun x W => value_r x.hb x.hr ht W
  obtain ⟨A', cap', e, hrow⟩ := hI
  simp only [Value.slice.injEq, true_and] at e
  obtain ⟨rfl, rfl⟩ := e
  obtain ⟨b, off, rfl, hb, hr⟩ := hrow (by intro h; subst h; simp at hl1)
  have Ht0 := Lib.hid ht0
  clear hrow ht ht0
  generalize htn : t.num = tn at HT HX HV hB0
  generalize htd : (t.den : Int) = td at HT HX HV hB0
  clear htn htd
  go_enter Tryz.func25, Tryz.ntmps25
  go_wp2_with fail
  refine HV.mono ?_; rintro e w1 ⟨rfl, hb1⟩
  obtain ⟨hc, hf⟩ := bcell hb1
  have hz := hb1.size
  simp only [World.size_alloc] at hc hf hz
  go_wp2_with fail
  refine (HT.out _).mono ?_; rintro e w2 ⟨rfl, hb2⟩
  replace hb2 := bnext hb1 hb2
  clear hc hf hz hb1
  have bT : BoxN w2 w.heap.size 25 #[.int .i64 tn, .int .i64 td] := (BoxN.new w _ _).below hb2 (by simp)
  have hB2 : Below w.heap.size w w2 := hB0.trans (hb2.mono hB0.size)
  clear hb2 HV HT hB0
  go_wp2_with fail
  go_loopw [6, 21] (fun v i wr => ∃ (k : Nat), k ≤ c.length ∧ i = .int .i64 k ∧ (∀ x ∈ c.take k, okv x t) ∧ Own4 w2.heap.size wr v ((c.take k).map (shiftB t)) ∧ Below w2.heap.size w2 wr)
    (fun _ i _ => c.length - (intOf i).toNat)
  case atStart => exact ⟨0, Nat.zero_le _, rfl, by simp, ⟨World.ownsRow_nil _ _ _ _, by simp⟩, Below.refl _ _⟩
  case round =>
    obtain ⟨k, hk, rfl, hall, hown, hBr⟩ := hrel
    by_cases hlt : k < c.length
    · have hx : c[k]? = some c[k] := List.getElem?_eq_getElem hlt
      obtain ⟨x, hxe⟩ : ∃ x, c[k] = x := ⟨_, rfl⟩
      rw [hxe] at hx
      have hts := take_succ' hx
      have hmem : x ∈ c := List.mem_of_getElem? hx
      obtain ⟨c0, c1, c2, c3⟩ := (hr.below hB2 hb).below hBr (Nat.lt_of_lt_of_le hb hB2.size) k x hx
      have hzw : w.heap.size < w2.heap.size := bT.lt
      have hwz := hBr.size
      have bT1 := bT.below hBr (by omega)
      have t0 : wr.cell? ⟨w.heap.size, 0, none⟩ = some (.int .i64 tn) := bT1.cell 0
      have t1 : wr.cell? ⟨w.heap.size, 1, none⟩ = some (.int .i64 td) := bT1.cell 1
      have kT : w.heap.size < wr.heap.size := by omega
      have HXx := HX.out x
      clear HX hx hxe
      by_cases hok : okv x t
      · have hall2 : Hid (∀ y ∈ c.take (k + 1), okv y t) := by
          intro y hy
          rw [hts, List.mem_append] at hy
          rcases hy with hy | hy
          · exact hall y hy
          · simp at hy; subst hy; exact hok
        rw [valV_ok hok] at HXx
        simp only [ratV] at HXx
        have hsn := cellsOf_snoc ((c.take k).map (shiftB t)) (shiftB t x)
        rw [shift_cells Ht0.out hok] at hsn
        have hmp : Hid ((c.take (k + 1)).map (shiftB t) = (c.take k).map (shiftB t) ++ [shiftB t x]) := by unfold Hid; rw [hts]; simp
        generalize (valQ x t).num = vn at HXx hsn
        generalize ((valQ x t).den : Int) = vd at HXx hsn
        have HXx := Lib.hid HXx
        have hSn := Lib.hid hsn
        have hlen4 : ((c.take k).map (shiftB t)).length = k := by simp; omega
        obtain ⟨ho, hnil⟩ := hown
        rw [hlen4] at ho
        generalize (c.take k).map (shiftB t) = acc at ho hnil hmp hSn hlen4
        have hone : ∀ u ∈ [Value.int .i64 vn, .int .i64 vd, .int .i64 x.r.num, .int .i64 x.r.den], u.oneCell' = true := by
          intro u hu
          simp only [List.mem_cons, List.not_mem_nil, or_false] at hu
          rcases hu with rfl | rfl | rfl | rfl <;> rfl
        have Hlen4 := Lib.hid hlen4
        clear hsn hts hall hnil hlen4
        go_wp2_with fail
        refine (HXx.out _).mono ?_; rintro e w3 ⟨rfl, hb3⟩
        have bX3 := (BoxN.new wr 80 #[.int .i64 x.b.num, .int .i64 x.b.den, .int .i64 x.r.num, .int .i64 x.r.den]).below hb3 (by simp)
        have hB3 := (below_allocs1 hBr hwz hb3)
        have ho3 := (own_below (ho.alloc (.cells #[.int .i64 x.b.num, .int .i64 x.b.den, .int .i64 x.r.num, .int .i64 x.r.den] 80)) hb3).alloc (.cells #[.int .i64 vn, .int .i64 vd] 25)
        have x2 : w3.cell? ⟨wr.heap.size, 2, none⟩ = some (.int .i64 x.r.num) := bX3.cell 2
        have x3 : w3.cell? ⟨wr.heap.size, 3, none⟩ = some (.int .i64 x.r.den) := bX3.cell 3
        have kX := bX3.lt
        clear hb3
        have hB4 := hB3.alloc hB3.size (.cells #[.int .i64 vn, .int .i64 vd] 25)
        have hz4 := hB4.size
        have hNew : ((w3.alloc (.cells #[.int .i64 vn, .int .i64 vd] 25)).alloc (.cells #[.int .i64 vn, .int .i64 vd, .int .i64 x.r.num, .int .i64 x.r.den] 80)).heap[w3.heap.size + 1]? = some (.cells #[.int .i64 vn, .int .i64 vd, .int .i64 x.r.num, .int .i64 x.r.den] 80 (0, 0)) := by simpa using heap_alloc_new (w3.alloc (.cells #[.int .i64 vn, .int .i64 vd] 25)) (.cells #[.int .i64 vn, .int .i64 vd, .int .i64 x.r.num, .int .i64 x.r.den] 80)
        have hNews := Lib.hid (World.news_of_block hNew)
        have hz5 := hB3.size
        clear hNew
        go_wp2_with (at_builtin; refine wpList_append_own _ rfl _ _ 22 rfl w2.heap.size 80 i0 _ 4 32 Tryz.underlying22 hi hz0 hz1 hz2 rfl (by decide) _ _ _ rfl (ho3.alloc _) ⟨w3.heap.size + 1, 0, none⟩ 1 1 [.int .i64 vn, .int .i64 vd, .int .i64 x.r.num, .int .i64 x.r.den] rfl rfl hNews.out hone (by unfold maxLen; omega) (by omega) (by simp; omega) ?_; intro v' w5 hown' hgrow _; obtain ⟨g', cap3, rfl⟩ := ownsRow_succ hown')
        have hB5 : Below w2.heap.size w2 w5 := (hB4.alloc hB4.size _).grown hgrow (by simp; omega) (fun j e => own_block_le ho e)
        clear bX3 ho3 hgrow x2 x3
        go_roundw
        case rel => exact ⟨k + 1, hlt, by go_num, hall2.out, by rw [hmp.out]; exact ⟨by rw [hSn.out, List.length_append, Hlen4.out]; exact hown', by simp⟩, hB5⟩
        case measure => simp [intOf]; omega
      · have hno : Hid (¬ ∀ y ∈ c, okv y t) := fun h => hok (h x hmem)
        rw [valV_no hok] at HXx
        have HXx := Lib.hid HXx
        simp only [ratV] at HXx
        clear hts hall hown
        go_wp2_with fail
        refine (HXx.out _).mono ?_; rintro e w3 ⟨rfl, hb3⟩
        have hB3 := below_allocs1 hBr hwz hb3
        have hB4 := hB2.trans ((hB3.alloc hB3.size (.cells #[.int .i64 0, .int .i64 0] 25)).mono hB2.size)
        clear hb3
        go_wp2
        go_ret2
        exact ⟨fun h => absurd h hno.out, fun _ => rfl, hB4⟩
    · obtain rfl : k = c.length := by omega
      rw [List.take_length] at hall hown
      obtain ⟨A', cap2, rfl⟩ := hown.form
      have hN := normal_any A' cap2 (c.map (shiftB t)) (by simp; omega) wr hown.sl
      simp only [List.length_map] at hN
      have hB5 := hB2.trans (hBr.mono hB2.size)
      have hall := Lib.hid hall
      clear hown
      go_wp2_with fail
      (with_reducible refine hN.mono ?_); rintro e w3 ⟨v, rfl, h1, h2, h3⟩
      have hO : Hid (Own4 wr.heap.size w3 v (normL (c.map (shiftB t)))) := ⟨h1, h2⟩
      clear h1 h2 hN
      go_wp2
      go_ret2
      exact ⟨fun _ => ⟨v, rfl, hO.out.base hB5.size⟩, fun h => absurd hall.out h, hB5.trans (h3.mono hB5.size)⟩
end
end Go.Proofs.YtaanhddgmiggfaaGreat
