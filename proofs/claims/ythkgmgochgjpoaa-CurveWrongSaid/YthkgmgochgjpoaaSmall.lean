/- The law package's Small, point and at. -/
import Derived.Test.YthkgmgochgjpoaaMath
import Derived.Test.YthkgmgochgjpoaaYes
namespace Go.Proofs.Ythkgmgochgjpoaa
open Go.RowKit Go.Joins Go.Shelf Go.Sort Num

/-- The bytes of an argument. -/
def ByRow (w : World) (A : Option Addr) (zs : List Int) : Prop := zs ≠ [] → ∃ b off, A = some ⟨b, off, none⟩ ∧ b < w.heap.size ∧ ∀ k z, zs[k]? = some z → w.cell? ⟨b, off + k, none⟩ = some (.int .u8 z)
theorem ByRow.keep {w w' : World} {A : Option Addr} {zs : List Int} (h : ByRow w A zs) (hb : Below w.heap.size w w') : ByRow w' A zs := fun hz => by
  obtain ⟨b, off, e, hl, hr⟩ := h hz
  exact ⟨b, off, e, Nat.lt_of_lt_of_le hl hb.size, fun k z hk => (hb.cell (p := ⟨b, off + k, none⟩) hl).trans (hr k z hk)⟩
theorem cl_byRow (A : Option Addr) (zs : List Int) : Cl (fun W => ByRow W A zs) := fun _ _ h hb => h.keep hb

/-- The bucket of two bytes. -/
def smB (x y : Int) : Buck := mkBuck (Rat.divInt (x % 101) 1) (Rat.divInt (y % 41) 8)
theorem sm_h (x y : Int) : (Fit (Rat.divInt (x % 101) 1) ∧ Fit (Rat.divInt (y % 41) 8)) ∧ (0 ≤ Rat.divInt (x % 101) 1 ∧ 0 ≤ Rat.divInt (y % 41) 8) :=
  ⟨⟨bd_divInt (by decide) (by omega) (by decide), bd_divInt (by decide) (by omega) (by decide)⟩, Rat.divInt_nonneg (by omega) (by decide), Rat.divInt_nonneg (by omega) (by decide)⟩
theorem smB_b (x y : Int) : (smB x y).b = Rat.divInt (x % 101) 1 := mk_b (sm_h x y)
theorem smB_r (x y : Int) : (smB x y).r = Rat.divInt (y % 41) 8 := mk_r (sm_h x y)
/-- The first k buckets. -/
def smTo (zs : List Int) (k : Nat) : List Buck := (List.range k).map fun i => smB (zs.getD (2 * i) 0) (zs.getD (2 * i + 1) 0)
theorem smTo_succ (zs : List Int) (k : Nat) : smTo zs (k + 1) = smTo zs k ++ [smB (zs.getD (2 * k) 0) (zs.getD (2 * k + 1) 0)] := by unfold smTo; rw [List.range_succ, List.map_append]; rfl
theorem smTo_len (zs : List Int) (k : Nat) : (smTo zs k).length = k := by simp [smTo]
def smN (zs : List Int) : Nat := min 4 (zs.length / 2)
def smD : Buck := mkBuck 7 (1 / 8)
/-- The curve of an argument. -/
def small (zs : List Int) : List Buck := if smN zs = 0 then [smD] else smTo zs (smN zs)
theorem small_len (zs : List Int) : 1 ≤ (small zs).length ∧ (small zs).length ≤ 4 := by
  unfold small
  split
  · exact ⟨Nat.le_refl _, by decide⟩
  · rw [smTo_len]; unfold smN at *; omega
/-- What is known of its buckets. -/
structure Sm (x : Buck) : Prop where
  b : Gd 1 100 x.b
  r : Gd 8 40 x.r
theorem small_sm (zs : List Int) : ∀ x ∈ small zs, Sm x := by
  intro x hx
  unfold small at hx
  split at hx
  · simp only [List.mem_singleton] at hx
    subst hx
    exact ⟨⟨7, by decide, by decide +kernel⟩, ⟨1, by decide, by decide +kernel⟩⟩
  · simp only [smTo, List.mem_map] at hx
    obtain ⟨i, _, rfl⟩ := hx
    exact ⟨⟨_, by omega, smB_b _ _⟩, ⟨_, by omega, smB_r _ _⟩⟩
theorem mk_fit {n d : Int} (h1 : -1073741824 ≤ n ∧ n ≤ 1073741824) (h2 : 1 ≤ d ∧ d ≤ 1073741824) : mkN n d = ((Rat.divInt n d).num, ((Rat.divInt n d).den : Int), 0) := by
  rw [mk_ofR n d (by omega)]
  exact ofR_yes (bd_divInt (by omega) (by omega) (by omega))

set_option maxRecDepth 100000 in
set_option maxHeartbeats 2000000 in
theorem small_any (A : Option Addr) (cap : Nat) (zs : List Int) (hz : ∀ z ∈ zs, 0 ≤ z ∧ z ≤ 255) (hlen : zs.length ≤ 9223372036854775807) (w : World) (hrow : ByRow w A zs) :
    Calls Try.prog 9 #[.slice A zs.length cap] w fun e w' => ∃ A' c', e = .returned (.slice A' (small zs).length c') ∧ isC A' c' (small zs) w' ∧ Below w.heap.size w w' := by
  obtain ⟨i0, hi, hz0, hz1, hz2⟩ := info_parts infoB
  have HN : Hid (∀ (n d : Int) (W : World), _) := fun n d W => num_any n d W
  go_enter Try.func9, Try.ntmps9
  go_wp2_with fail
  go_loopw [3, 4] (fun v i wr => ∃ k j : Nat, (k ≤ 4 ∧ k ≤ smN zs) ∧ j = 2 * k ∧ i = .int .i64 ↑j ∧ wr.ownsRow w.heap.size 45 4 v k (cellsOf (smTo zs k)) ∧ (v = .slice none 0 0 ↔ k = 0) ∧ Below w.heap.size w wr)
    (fun _ i _ => zs.length + 8 - (intOf i).toNat)
  case atStart => exact ⟨0, 0, by omega, rfl, rfl, World.ownsRow_nil _ _ _ _, by simp, Below.refl _ _⟩
  case round =>
    obtain ⟨k, j, ⟨hk, hkn⟩, hj, rfl, hown, hnil, hB⟩ := hrel
    have hform : ∃ g c, u3 = .slice g k c := by
      rcases hown.2 with ⟨e, e2⟩ | ⟨g, c, _, e, _⟩
      · exact ⟨none, 0, by rw [e, e2]⟩
      · exact ⟨_, c, e⟩
    obtain ⟨g, cg, rfl⟩ := hform
    by_cases hlt : k < smN zs
    · have hn1 : j + 1 < zs.length ∧ k < 4 := by unfold smN at hlt; omega
      obtain ⟨hn1, hk4⟩ := hn1
      have hz1e : zs[j]? = some zs[j] := List.getElem?_eq_getElem (by omega)
      have hz2e : zs[j + 1]? = some zs[j + 1] := List.getElem?_eq_getElem hn1
      have hb1 := hz _ (List.getElem_mem (by omega : j < zs.length))
      have hb2 := hz _ (List.getElem_mem hn1)
      have hsm : Hid (smTo zs (k + 1) = smTo zs k ++ [smB zs[j] zs[j + 1]]) := by
        unfold Hid
        rw [smTo_succ, ← hj, List.getD_eq_getElem?_getD, List.getD_eq_getElem?_getD, hz1e, hz2e]; rfl
      obtain ⟨z1, e1⟩ : ∃ z, zs[j] = z := ⟨_, rfl⟩
      obtain ⟨z2, e2⟩ : ∃ z, zs[j + 1] = z := ⟨_, rfl⟩
      rw [e1] at hz1e hb1 hsm
      rw [e2] at hz2e hb2 hsm
      obtain ⟨b, off, rfl, hbl, hr⟩ := hrow (by intro h; rw [h] at hn1; simp at hn1)
      have c1 := (hB.cell (p := ⟨b, off + j, none⟩) hbl).trans (hr j z1 hz1e)
      have c2 := (hB.cell (p := ⟨b, off + (j + 1), none⟩) hbl).trans (hr (j + 1) z2 hz2e)
      have hm1 := Lib.hid (mk_fit (n := z1 % 101) (d := 1) (by omega) (by decide))
      have hm2 := Lib.hid (mk_fit (n := z2 % 41) (d := 8) (by omega) (by decide))
      rw [← smB_b z1 z2] at hm1
      rw [← smB_r z1 z2] at hm2
      have HM1 : Hid (∀ W : World, _) := fun W => make_any (z1 % 101) 1 W (by omega) (by omega) (by decide) (by decide)
      have HM2 : Hid (∀ W : World, _) := fun W => make_any (z2 % 41) 8 W (by omega) (by omega) (by decide) (by decide)
      rw [hm1.out] at HM1
      rw [hm2.out] at HM2
      simp only [ratV] at HM1 HM2
      generalize smB z1 z2 = x at HM1 HM2 hsm
      have hone := one_cells x
      simp only [Buck.cells] at hone
      have hsn := Lib.hid (cellsOf_snoc (smTo zs k) x)
      have hlk : Hid ((smTo zs k).length = k) := smTo_len zs k
      obtain ⟨hb10, hb11⟩ := hb1
      obtain ⟨hb20, hb21⟩ := hb2
      have Hj := Lib.hid hj
      have Hr := Lib.hid hr
      clear hz1e hz2e e1 e2 hm1 hm2 hj hr
      go_wp2_with fail
      refine (HM1.out _).mono ?_; rintro e w1 ⟨rfl, hbm⟩
      have hown1 := own_below hown hbm
      have hB1 := hB.trans (hbm.mono hB.size)
      replace c2 := (hbm.cell (p := ⟨b, off + (j + 1), none⟩) (Nat.lt_of_lt_of_le hbl hB.size)).trans c2
      have hbl1 : b < w1.heap.size := Nat.lt_of_lt_of_le hbl hB1.size
      clear c1 hown hbm
      go_wp2_with fail
      refine (HM2.out _).mono ?_; rintro e w2 ⟨rfl, hbm⟩
      have hx := (Has.new w1 x.b.num x.b.den 28).keep hbm
      have hown2 := own_below (hown1.alloc _) hbm
      have hB2 := below_allocs1 hB1 hB1.size hbm
      clear hown1 hB1 hbm c2 hbl1
      generalize w1.heap.size = bx at hx ⊢
      have x0 := (hx.alloc (.cells #[.int .i64 x.r.num, .int .i64 x.r.den] 28)).c0
      have x1 := (hx.alloc (.cells #[.int .i64 x.r.num, .int .i64 x.r.den] 28)).c1
      have lx := hx.lt
      have hNew : ((w2.alloc (.cells #[.int .i64 x.r.num, .int .i64 x.r.den] 28)).alloc (.cells #[.int .i64 x.b.num, .int .i64 x.b.den, .int .i64 x.r.num, .int .i64 x.r.den] 45)).heap[w2.heap.size + 1]? = some (.cells #[.int .i64 x.b.num, .int .i64 x.b.den, .int .i64 x.r.num, .int .i64 x.r.den] 45 (0, 0)) := by simpa using heap_alloc_new (w2.alloc (.cells #[.int .i64 x.r.num, .int .i64 x.r.den] 28)) (.cells #[.int .i64 x.b.num, .int .i64 x.b.den, .int .i64 x.r.num, .int .i64 x.r.den] 45)
      have hNews := Lib.hid (World.news_of_block hNew)
      have own1 := (hown2.alloc (.cells #[.int .i64 x.r.num, .int .i64 x.r.den] 28)).alloc (.cells #[.int .i64 x.b.num, .int .i64 x.b.den, .int .i64 x.r.num, .int .i64 x.r.den] 45)
      have hB3 := (hB2.alloc hB2.size (.cells #[.int .i64 x.r.num, .int .i64 x.r.den] 28)).alloc (by have := hB2.size; simp; omega) (.cells #[.int .i64 x.b.num, .int .i64 x.b.den, .int .i64 x.r.num, .int .i64 x.r.den] 45)
      have hsz := hB2.size
      clear hNew hx hown2 hnil
      go_wp2_with (at_builtin; refine wpList_append_own _ rfl _ _ 25 rfl w.heap.size 45 i0 _ 4 32 Try.underlying25 hi hz0 hz1 hz2 rfl (by decide) _ _ _ rfl own1 ⟨w2.heap.size + 1, 0, none⟩ 1 1 [.int .i64 x.b.num, .int .i64 x.b.den, .int .i64 x.r.num, .int .i64 x.r.den] rfl rfl hNews.out hone (by unfold maxLen; omega) (by omega) (by simp; omega) ?_; intro v' w3 hown' hgrow _; obtain ⟨g', cap3, rfl⟩ := ownsRow_succ hown')
      have hbl2 : ∀ r, (Value.slice g k cg).ownBlock = some r → w.heap.size ≤ r := fun r e => by
        rcases own1.2 with ⟨e1, _⟩ | ⟨g4, c4, _, e1, h4, _⟩
        · rw [e1] at e; cases e
        · rw [e1] at e; cases e; exact h4
      have hB4 : Below w.heap.size w w3 := hB3.grown hgrow (by simp; omega) hbl2
      go_roundw
      case rel => exact ⟨k + 1, j + 2, by omega, by have := Hj.out; omega, by go_num, by rw [hsm.out, hsn.out]; exact hown', by simp, hB4⟩
      case measure => simp [intOf]; omega
    · have hke : k = smN zs := by omega
      by_cases hk0 : k = 0
      · obtain ⟨rfl, rfl, rfl⟩ : g = none ∧ k = 0 ∧ cg = 0 := by
          have := hnil.2 hk0
          simp only [Value.slice.injEq] at this
          exact this
        have hn0 : smN zs = 0 := hke.symm
        have hsm : Hid (small zs = [smD]) := by unfold Hid small; rw [if_pos hn0]
        have hj0 : j = 0 := by omega
        have hn1 : ¬ j + 1 < zs.length := by unfold smN at hn0; omega
        subst hj0
        clear hke hn0 hnil hown hj hkn hlt
        go_wp2_with fail
        (with_reducible refine (HN.out _ _ _).mono ?_); rintro e w1 ⟨rfl, hb1⟩
        have hB1 := hB.trans (hb1.b.mono hB.size)
        go_wp2_with fail
        (with_reducible refine (HN.out _ _ _).mono ?_); rintro e w2 ⟨rfl, hb2⟩
        have hB2 := hB1.trans (hb2.b.mono hB1.size)
        have hi := Lib.hid (isC.lit w2 [smD] 1 #[.int .i64 7, .int .i64 1, .int .i64 1, .int .i64 8] (by kernel_rfl))
        have hB3 := Lib.hid (hB2.alloc hB2.size (.cells #[.int .i64 7, .int .i64 1, .int .i64 1, .int .i64 8] 45))
        clear hb1 hb2 hB hB1 hB2
        go_wp2
        go_ret
        exact ⟨_, 1, by rw [hsm.out]; rfl, by rw [hsm.out]; exact hi.out, hB3.out⟩
      · have hsm : Hid (small zs = smTo zs k) := by unfold Hid small; rw [if_neg (by omega), hke]
        have hlk : Hid ((smTo zs k).length = k) := smTo_len zs k
        have hO : Hid (isC g cg (smTo zs k) wr) := by
          unfold Hid
          refine isC.of_own (base := w.heap.size) ?_
          rw [smTo_len]
          refine ⟨by rw [smTo_len]; exact hown, ?_⟩
          rw [hnil]
          constructor
          · intro h; exact absurd h hk0
          · intro h; have := smTo_len zs k; rw [h] at this; simp at this; omega
        have hjb : j ≤ 8 := by omega
        have hc : (¬ j + 1 < zs.length) ∨ (j + 1 < zs.length ∧ k = 4) := by unfold smN at hke; omega
        have hk1 : 0 < k := by omega
        have hne : ((k : Int) == 0) = false := by simp; omega
        have HB := Lib.hid hB
        clear hnil hown hj hkn hlt hke hB hk0
        rcases hc with hc | ⟨hc, hk4⟩
        · have hd : decide ((j : Int) + 1 < zs.length) = false := by simp; omega
          go_wp2
          go_ret
          exact ⟨g, cg, by rw [hsm.out, hlk.out]; rfl, by rw [hsm.out]; exact hO.out, HB.out⟩
        · have hlk4 : decide ((k : Int) < 4) = false := by simp; omega
          have hd : decide ((j : Int) + 1 < zs.length) = true := by simp; omega
          clear hk4
          go_wp2
          go_ret
          exact ⟨g, cg, by rw [hsm.out, hlk.out]; rfl, by rw [hsm.out]; exact hO.out, HB.out⟩

/-- The point of a number. -/
def ptQ (n : Int) : Rat := Rat.divInt (n % 4000) 4
theorem ptQ_gd (n : Int) : Gd 4 3999 (ptQ n) := ⟨n % 4000, by omega, rfl⟩
theorem ptQ_nonneg (n : Int) : 0 ≤ ptQ n := Rat.divInt_nonneg (by omega) (by decide)
theorem ptQ_fit (n : Int) : Fit (ptQ n) := gd_fit (ptQ_gd n) (by decide) (by decide) (by decide)
set_option maxHeartbeats 1000000 in
theorem point_any (n : Int) (h0 : 0 ≤ n) (h1 : n ≤ 65535) (w : World) : Calls Try.prog 10 #[.int .u16 n] w fun e w' => e = .returned (.agg #[.int .i64 (ptQ n).num, .int .i64 (ptQ n).den]) ∧ Below w.heap.size w w' := by
  have hm := Lib.hid (mk_fit (n := n % 4000) (d := 4) (by omega) (by decide))
  have HM : Hid (∀ W : World, _) := fun W => make_any (n % 4000) 4 W (by omega) (by omega) (by decide) (by decide)
  rw [hm.out] at HM
  simp only [ratV] at HM
  have e : Hid (Rat.divInt (n % 4000) 4 = ptQ n) := rfl
  rw [e.out] at HM
  generalize ptQ n = q at HM ⊢
  clear hm e
  go_enter Try.func10, Try.ntmps10
  go_wp2_with fail
  (with_reducible refine (HM.out _).mono ?_); rintro e w1 ⟨rfl, hb⟩
  have hB1 := ((Below.refl w.heap.size w).alloc (Nat.le_refl _) (.cells #[.int .i64 0, .int .i64 0] 28)).trans (hb.mono (by simp))
  have b0 := (BoxN.new w 28 #[.int .i64 0, .int .i64 0]).below hb (by simp)
  have c0 := b0.cell 0
  have c1 := b0.cell 1
  have f0 := b0.frozen 0
  have f1 := b0.frozen 1
  have k0 := b0.lt
  have r := (b0.set2 (.int .i64 q.num) (.int .i64 q.den)).alloc (.cells #[.int .i64 q.num, .int .i64 q.den] 28)
  have r0 := Lib.hid (r.cell 0)
  have r1 := Lib.hid (r.cell 1)
  have hB2 := Lib.hid (((hB1.setCell (p := ⟨w.heap.size, 0, none⟩) (Nat.le_refl _) (.int .i64 q.num)).setCell (p := ⟨w.heap.size, 1, none⟩) (Nat.le_refl _) (.int .i64 q.den)).alloc (by have := hB1.size; simp [World.setCell]; omega) (.cells #[.int .i64 q.num, .int .i64 q.den] 28))
  clear hb hB1 b0 r
  go_wp2
  exact bodyPost_ret (v := .agg #[.int .i64 q.num, .int .i64 q.den]) (by simp [results, Try.results10, go_sem, r0.out, r1.out]) rfl ⟨rfl, hB2.out⟩

set_option maxHeartbeats 1000000 in
theorem at_any {A : Option Addr} {ca : Nat} {a : List Buck} (t : Rat) (w : World) (ha : isC A ca a w) (h1 : 1 ≤ a.length) (h2 : a.length ≤ 32) (ht : Fit t) (ht0 : 0 ≤ t) (hok : ∀ x ∈ a, okv x t) (l : Nat) (hl : a.length = l) :
    Calls Try.prog 16 #[.slice A l ca, .agg #[.int .i64 t.num, .int .i64 t.den]] w fun e w' => e = .returned (.tuple #[.agg #[.int .i64 (minV a t).num, .int .i64 (minV a t).den], .bool true]) ∧ Below w.heap.size w w' := by
  have HA : Hid (∀ W : World, Below w.heap.size w W → _) := fun W hb => at_yes t (cl_isC A ca a w W ha hb) h1 h2 ht ht0 hok l hl t.num t.den (minV a t).num (minV a t).den rfl rfl rfl rfl
  generalize minV a t = q at HA ⊢
  clear ha ht ht0 hok
  go_enter Try.func16, Try.ntmps16
  have hB0 := ((Below.refl w.heap.size w).alloc (Nat.le_refl _) (.cells #[.int .i64 t.num, .int .i64 t.den] 28)).alloc (by simp) (.cells #[.int .i64 0, .int .i64 0] 28)
  have HA1 := HA.out _ hB0
  clear HA
  go_wp2_with fail
  (with_reducible refine HA1.mono ?_); rintro e w1 ⟨rfl, hb⟩
  have hB1 := hB0.trans (hb.mono hB0.size)
  have b0 : BoxN w1 (w.heap.size + 1) 28 #[.int .i64 0, .int .i64 0] := by
    have := (BoxN.new (w.alloc (.cells #[.int .i64 t.num, .int .i64 t.den] 28)) 28 #[.int .i64 0, .int .i64 0]).below hb (by simp)
    rwa [World.size_alloc] at this
  have c0 := b0.cell 0
  have c1 := b0.cell 1
  have f0 := b0.frozen 0
  have f1 := b0.frozen 1
  have k0 := b0.lt
  have r := (b0.set2 (.int .i64 q.num) (.int .i64 q.den)).alloc (.cells #[.int .i64 q.num, .int .i64 q.den] 28)
  have r0 := Lib.hid (r.cell 0)
  have r1 := Lib.hid (r.cell 1)
  have hB2 := Lib.hid (((hB1.setCell (p := ⟨w.heap.size + 1, 0, none⟩) (Nat.le_succ _) (.int .i64 q.num)).setCell (p := ⟨w.heap.size + 1, 1, none⟩) (Nat.le_succ _) (.int .i64 q.den)).alloc (by have := hB1.size; simp [World.setCell]; omega) (.cells #[.int .i64 q.num, .int .i64 q.den] 28))
  clear hb hB1 b0 r HA1 hB0 hl
  go_wp2
  exact bodyPost_ret (v := .tuple #[.agg #[.int .i64 q.num, .int .i64 q.den], .bool true]) (by simp [results, Try.results16, go_sem, r0.out, r1.out]) rfl ⟨rfl, hB2.out⟩
end Go.Proofs.Ythkgmgochgjpoaa
