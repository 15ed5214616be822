/- slices.Grow and slices.Concat at curves, and curve.Min. -/
import Derived.Test.YtaanhddgmiggfaaGreatRate
namespace Go.Proofs.YtaanhddgmiggfaaGreat
open Go.RowKit Go.Joins Go.Shelf Go.Sort Num

theorem row_cells {W : World} {b off : Nat} {c : List Buck} (h : Row W b off c) : ∀ j u, (cellsOf c)[j]? = some u → W.cell? ((⟨b, off, none⟩ : Addr).add j) = some u := by
  intro j u hu
  have hj : j < c.length * 4 := by
    have := (List.getElem?_eq_some_iff.1 hu).1
    rwa [cellsOf_length] at this
  have hq : j / 4 < c.length := by omega
  obtain ⟨h0, h1, h2, h3⟩ := h (j / 4) c[j / 4] (List.getElem?_eq_getElem hq)
  have hf := flat_cells c (j / 4) (j % 4) c[j / 4] (List.getElem?_eq_getElem hq) (Nat.mod_lt _ (by decide))
  rw [show j / 4 * 4 + j % 4 = j by omega, hu] at hf
  have ha : ((⟨b, off, none⟩ : Addr).add j) = ⟨b, off + j, none⟩ := by unfold Addr.add; split <;> simp_all
  rw [ha, hf]
  have hr : j % 4 < 4 := Nat.mod_lt _ (by decide)
  rcases show j % 4 = 0 ∨ j % 4 = 1 ∨ j % 4 = 2 ∨ j % 4 = 3 by omega with e | e | e | e
  · rw [e, show off + j = off + j / 4 * 4 by omega, h0]; rfl
  · rw [e, show off + j = off + j / 4 * 4 + 1 by omega, h1]; rfl
  · rw [e, show off + j = off + j / 4 * 4 + 2 by omega, h2]; rfl
  · rw [e, show off + j = off + j / 4 * 4 + 3 by omega, h3]; rfl
theorem one_all (c : List Buck) : ∀ u ∈ cellsOf c, u.oneCell' = true := by
  intro u hu
  unfold cellsOf at hu
  obtain ⟨x, -, hx⟩ := List.mem_flatMap.1 hu
  exact one_cells x u hx
theorem cellsOf_append (a b : List Buck) : cellsOf (a ++ b) = cellsOf a ++ cellsOf b := by simp [cellsOf]

theorem grow_own (n : Nat) (h1 : 1 ≤ n) (h2 : n ≤ 1048576) (w : World) :
    Calls Tryz.prog 106 #[.slice none 0 0, .int .i64 n] w fun e w' => ∃ v, e = .returned v ∧ w'.ownsRow w.heap.size 80 4 v 0 [] ∧ Below w.heap.size w w' := by
  obtain ⟨i0, hi, hz0, hz1, hz2⟩ := info_parts infoB
  have hG := Any8.slices_Grow_grow Tryz.growC i0 _ hi hz0 (by omega) none 0 0 n [] w (Nat.le_refl _) (by omega) (by rw [hz2]; omega) (by omega) (by simp) (fun _ => rfl) (fun a h => by cases h)
  change Calls Tryz.prog 106 _ _ _ at hG
  refine hG.mono ?_
  rintro e w' ⟨rfl, rfl⟩
  refine ⟨_, rfl, ⟨rfl, .inr ⟨w.heap.size, _, _, rfl, Nat.le_refl _, heap_alloc_new _ _, Nat.zero_le _, grownCap_le_maxLen _ _ _ _ (by unfold maxLen; omega), ?_, by simp⟩⟩, ((Below.refl _ w).drew).alloc (Nat.le_refl _) _⟩
  have hg := grownCap_ge w (0 + n) 0 (Tryz.growC_ren.t 25)
  generalize grownCap w (0 + n) 0 (Tryz.growC_ren.t 25) = G at *
  rw [Array.size_append, Array.size_append, size_zeroCells, size_zeroCells]
  simp [Value.cells]
  omega

set_option maxRecDepth 100000 in
set_option maxHeartbeats 4000000 in
theorem concat_any (g gc : Nat) (A B : Option Addr) (ca cb : Nat) (a b : List Buck) (ha1 : 1 ≤ a.length) (ha2 : a.length ≤ 262144) (hb1 : 1 ≤ b.length) (hb2 : b.length ≤ 262144) (w : World)
    (h0 : w.cell? ⟨g, 0, none⟩ = some (.slice A a.length ca)) (h1 : w.cell? ⟨g, 1, none⟩ = some (.slice B b.length cb)) (hg : g < w.heap.size)
    (hIa : Sl w.heap.size w (.slice A a.length ca) a) (hIb : Sl w.heap.size w (.slice B b.length cb) b) :
    Calls Tryz.prog 69 #[.slice (some ⟨g, 0, none⟩) 2 gc] w fun e w' => ∃ v, e = .returned v ∧ w'.ownsRow w.heap.size 80 4 v (a ++ b).length (cellsOf (a ++ b)) ∧ Below w.heap.size w w' := by
  obtain ⟨i0, hi, hz0, hz1, hz2⟩ := info_parts infoB
  have HG : Hid (∀ W : World, _) := fun W => grow_own (a.length + b.length) (by omega) (by omega) W
  obtain ⟨A', ca', e, hra⟩ := hIa
  simp only [Value.slice.injEq, true_and] at e
  obtain ⟨rfl, rfl⟩ := e
  obtain ⟨B', cb', e, hrb⟩ := hIb
  simp only [Value.slice.injEq, true_and] at e
  obtain ⟨rfl, rfl⟩ := e
  obtain ⟨ba, oa, rfl, hba, hra⟩ := hra (by intro h; subst h; simp at ha1)
  obtain ⟨bb, ob, rfl, hbb, hrb⟩ := hrb (by intro h; subst h; simp at hb1)
  have hca := Lib.hid (cellsOf_length a)
  have hcb := Lib.hid (cellsOf_length b)
  have hap := Lib.hid (cellsOf_append a b)
  go_enter Tryz.func69, Tryz.ntmps69
  go_wp2_with fail
  refine wp_loop_rounds 3 ?_
  rw [rounds_succ]
  go_wp2_with fail
  rw [rounds_succ]
  go_wp2_with fail
  rw [rounds_succ]
  go_wp2_with fail
  refine (HG.out _).mono ?_; rintro e w1 ⟨v, rfl, hown, hB1⟩
  have h0' := (hB1.cell (p := ⟨g, 0, none⟩) hg).trans h0
  have h1' := (hB1.cell (p := ⟨g, 1, none⟩) hg).trans h1
  have hra1 := hra.below hB1 hba
  go_wp2_with fail
  refine wp_loop_rounds 3 ?_
  rw [rounds_succ]
  go_wp2_with (at_builtin; refine wpList_append_own _ rfl _ _ 23 rfl w.heap.size 80 i0 _ 4 32 Tryz.underlying23 hi hz0 hz1 hz2 rfl (by decide) _ _ _ rfl hown ⟨ba, oa, none⟩ a.length ca (cellsOf a) rfl hca.out (row_cells hra1) (one_all a) (by unfold maxLen; omega) (by omega) hB1.size ?_; intro v2 w2 hown2 hgrow2 _)
  have hB2 : Below w.heap.size w w2 := hB1.grown hgrow2 hB1.size (fun j e => own_block_le hown e)
  have h02 := (hB2.cell (p := ⟨g, 0, none⟩) hg).trans h0
  have h12 := (hB2.cell (p := ⟨g, 1, none⟩) hg).trans h1
  have hrb2 := hrb.below hB2 hbb
  simp only [Nat.zero_add, List.nil_append] at hown2
  rw [rounds_succ]
  go_wp2_with (at_builtin; refine wpList_append_own _ rfl _ _ 23 rfl w.heap.size 80 i0 _ 4 32 Tryz.underlying23 hi hz0 hz1 hz2 rfl (by decide) _ _ _ rfl hown2 ⟨bb, ob, none⟩ b.length cb (cellsOf b) rfl hcb.out (row_cells hrb2) (one_all b) (by unfold maxLen; omega) (by omega) hB2.size ?_; intro v3 w3 hown3 hgrow3 _)
  have hB3 : Below w.heap.size w w3 := hB2.grown hgrow3 hB2.size (fun j e => own_block_le hown2 e)
  rw [rounds_succ]
  go_wp2
  go_ret
  exact ⟨v3, rfl, by rw [hap.out, List.length_append]; exact hown3, hB3⟩

def MinPost (a b : List Buck) (w : World) (e : Ending) (w' : World) : Prop :=
  ((normL (a ++ b)).length ≤ 32 → ∃ v, e = .returned (.tuple #[v, .int .i64 0]) ∧ Own4 w.heap.size w' v (normL (a ++ b))) ∧ (32 < (normL (a ++ b)).length → e = .returned (.tuple #[.slice none 0 0, .int .i64 5])) ∧ Below w.heap.size w w'

set_option maxHeartbeats 1000000 in
theorem min_bad (A B : Option Addr) (ca cb : Nat) (a b : List Bk) (hla : a.length ≤ 1048576) (hba : ∀ x ∈ a, x.bd64) (hlb : b.length ≤ 1048576) (hbb : ∀ x ∈ b, x.bd64) (w : World) (hIa : SlR w.heap.size w (.slice A a.length ca) a) (hIb : SlR w.heap.size w (.slice B b.length cb) b) (hbad : (valC a && valC b) = false) :
    Calls Tryz.prog 23 #[.slice A a.length ca, .slice B b.length cb] w fun e w' => e = .returned (.tuple #[.slice none 0 0, .int .i64 2]) ∧ Below w.heap.size w w' := by
  have HV := valid_c A ca a hla hba w hIa
  have HT : Hid (∀ W : World, Below w.heap.size w W → _) := fun W hb => valid_c B cb b hlb hbb W ((hIb.below hb (Nat.le_refl _)).more hb.size)
  clear hIa hIb hba hbb
  generalize valC a = vc at hbad HV
  generalize valC b = va at hbad HT
  cases vc
  · go_enter Tryz.func23, Tryz.ntmps23
    go_wp2_with fail
    (with_reducible refine HV.mono ?_); rintro e w1 ⟨rfl, hb1⟩
    go_wp2
    go_ret2
    exact ⟨rfl, hb1⟩
  · obtain rfl : va = false := by simpa using hbad
    go_enter Tryz.func23, Tryz.ntmps23
    go_wp2_with fail
    (with_reducible refine HV.mono ?_); rintro e w1 ⟨rfl, hb1⟩
    have HT1 := HT.out _ hb1
    go_wp2_with fail
    (with_reducible refine HT1.mono ?_); rintro e w2 ⟨rfl, hb2⟩
    go_wp2
    go_ret2
    exact ⟨rfl, hb1.trans (hb2.mono hb1.size)⟩

set_option maxHeartbeats 2000000 in
theorem min_ok (A B : Option Addr) (ca cb : Nat) (a b : List Buck) (ha1 : 1 ≤ a.length) (ha2 : a.length ≤ 32) (hb1 : 1 ≤ b.length) (hb2 : b.length ≤ 32) (w : World) (hIa : Sl w.heap.size w (.slice A a.length ca) a) (hIb : Sl w.heap.size w (.slice B b.length cb) b) :
    Calls Tryz.prog 23 #[.slice A a.length ca, .slice B b.length cb] w (MinPost a b w) := by
  have HV := valid_ok ha1 ha2 hIa
  have HT : Hid (∀ W : World, Below w.heap.size w W → _) := fun W hb => valid_ok hb1 hb2 (W := W) ((hIb.below hb (Nat.le_refl _)).more hb.size)
  have HC : Hid (∀ W : World, Below w.heap.size w W → Calls Tryz.prog 69 #[.slice (some ⟨W.heap.size, 0, none⟩) 2 2] (W.alloc (.cells #[.slice A a.length ca, .slice B b.length cb] 23)) fun e w' => ∃ v, e = .returned v ∧ Own4 W.heap.size w' v (a ++ b) ∧ Below W.heap.size W w') := fun W hb => by
    have hbA := hb.alloc hb.size (.cells #[.slice A a.length ca, .slice B b.length cb] 23)
    have bN := BoxN.new W 23 #[.slice A a.length ca, .slice B b.length cb]
    refine (concat_any W.heap.size 2 A B ca cb a b ha1 (by omega) hb1 (by omega) _ (bN.cell 0) (bN.cell 1) bN.lt ((hIa.below hbA (Nat.le_refl _)).more hbA.size) ((hIb.below hbA (Nat.le_refl _)).more hbA.size)).mono ?_
    rintro e w' ⟨v, rfl, h1, h2⟩
    refine ⟨v, rfl, ⟨own_base h1 (by simp), ?_⟩, ((Below.refl _ W).alloc (Nat.le_refl _) _).trans (h2.mono (by simp))⟩
    constructor
    · intro h
      subst h
      have := h1.1
      rcases h1.2 with ⟨_, h⟩ | ⟨g, cap, cur, h, _⟩
      · rw [List.length_append] at h; omega
      · cases h
    · intro h
      rw [List.append_eq_nil_iff] at h
      rw [h.1] at ha1
      simp at ha1
  have HN : Hid (∀ (W : World) (v : Value) (A' : Option Addr) (c' : Nat), v = .slice A' (a ++ b).length c' → Sl W.heap.size W v (a ++ b) → Calls Tryz.prog 65 #[v] W fun e w' => ∃ v, e = .returned v ∧ Own4 W.heap.size w' v (normL (a ++ b)) ∧ Below W.heap.size W w') := fun W v A' c' hv hS => by
    subst hv
    exact (normal_any A' c' (a ++ b) (by rw [List.length_append]; omega) W hS).mono fun e w' ⟨v, h1, h2, h3, h4⟩ => ⟨v, h1, ⟨h2, h3⟩, h4⟩
  unfold MinPost
  generalize a ++ b = ab at HC HN ⊢
  clear hIa hIb
  generalize normL ab = N at HN ⊢
  go_enter Tryz.func23, Tryz.ntmps23
  go_wp2_with fail
  (with_reducible refine HV.mono ?_); rintro e w1 ⟨rfl, hB1⟩
  have HT1 := HT.out _ hB1
  clear HV HT
  go_wp2_with fail
  (with_reducible refine HT1.mono ?_); rintro e w2 ⟨rfl, hB2⟩
  replace hB2 := hB1.trans (hB2.mono hB1.size)
  have HC1 := HC.out _ hB2
  clear HT1 HC hB1
  go_wp2_with fail
  (with_reducible refine HC1.mono ?_); rintro e w3 ⟨v, rfl, ho, hB3⟩
  replace hB3 := hB2.trans (hB3.mono hB2.size)
  obtain ⟨A', c', hv⟩ := ho.form
  have HN1 := HN.out w3 v A' c' hv ho.sl
  clear HC1 HN hv ho hB2
  go_wp2_with fail
  (with_reducible refine HN1.mono ?_); rintro e w4 ⟨v4, rfl, ho, hB4⟩
  replace hB4 := hB3.trans (hB4.mono hB3.size)
  obtain ⟨A4, c4, rfl⟩ := ho.form
  have hO := Lib.hid (ho.base hB3.size)
  clear HN1 ho hB3
  by_cases hn : 32 < N.length
  · go_wp2
    go_ret2
    exact ⟨fun h => absurd h (by omega), fun _ => rfl, hB4⟩
  · have hn' : N.length ≤ 32 := by omega
    go_wp2
    go_ret2
    exact ⟨fun _ => ⟨_, rfl, hO.out⟩, fun h => absurd h hn, hB4⟩

theorem rate_bad (A : Option Addr) (cap : Nat) (c : List Bk) (hlen : c.length ≤ 1048576) (hbd : ∀ x ∈ c, x.bd64) (w : World) (hI : SlR w.heap.size w (.slice A c.length cap) c) (hbad : valC c = false) :
    Calls Tryz.prog 14 #[.slice A c.length cap] w fun e w' => e = .returned (ratV (0, 0, 2)) ∧ Below w.heap.size w w' := by
  have hB0 := (Below.refl w.heap.size w).alloc (Nat.le_refl _) (.cells #[.int .i64 0, .int .i64 0] 25)
  have HV := valid_c A cap c hlen hbd _ ((hI.below hB0 (Nat.le_refl _)).more hB0.size)
  rw [hbad] at HV
  clear hI hbd hbad
  simp only [ratV]
  go_enter Tryz.func14, Tryz.ntmps14
  go_wp2_with fail
  (with_reducible refine HV.mono ?_); rintro e w1 ⟨rfl, hb1⟩
  obtain ⟨hc, hf⟩ := bcell hb1
  have hz := hb1.size
  simp only [World.size_alloc] at hc hf hz
  have hB := hB0.trans (hb1.mono hB0.size)
  go_wp2
  refine bodyPost_ret (v := ratV (0, 0, 2)) (by simp [results, Tryz.results14, go_sem, ratV, hc]) rfl ⟨rfl, ?_⟩
  (have hBs := hB.size; (try simp only [World.size_alloc] at hBs); repeat' (first | (with_reducible exact hB) | (with_reducible exact hBs) | (with_reducible refine Below.drew ?_) | (with_reducible refine below_drewN ?_ _) | (with_reducible refine Below.setCell ?_ ?_ _) | (with_reducible refine Below.alloc ?_ ?_ _) | go_size | omega | (simp; omega)))

theorem rate_ok (A : Option Addr) (cap : Nat) (c : List Buck) (hl1 : 1 ≤ c.length) (hl2 : c.length ≤ 32) (w : World) (hI : Sl w.heap.size w (.slice A c.length cap) c) :
    Calls Tryz.prog 14 #[.slice A c.length cap] w fun e w' => e = .returned (ratV ((rateL c).num, ((rateL c).den : Int), 0)) ∧ Below w.heap.size w w' := by
  have hB0 := (Below.refl w.heap.size w).alloc (Nat.le_refl _) (.cells #[.int .i64 0, .int .i64 0] 25)
  have HV := valid_ok hl1 hl2 ((hI.below hB0 (Nat.le_refl _)).more hB0.size)
  have HM : Hid (∀ W : World, Below w.heap.size w W → _) := fun W hb => minFunc_any A cap c hl1 (by omega) W ((hI.below hb (Nat.le_refl _)).more hb.size)
  clear hI
  unfold rateL
  generalize minB c = m at HM ⊢
  simp only [ratV, Buck.cells] at HM ⊢
  go_enter Tryz.func14, Tryz.ntmps14
  go_wp2_with fail
  (with_reducible refine HV.mono ?_); rintro e w1 ⟨rfl, hb1⟩
  have hB1 := hB0.trans (hb1.mono hB0.size)
  have HM1 := HM.out _ hB1
  clear HV HM
  go_wp2_with fail
  (with_reducible refine HM1.mono ?_); rintro e w2 ⟨rfl, hb2⟩
  replace hb2 := bnext hb1 hb2
  clear hb1 HM1
  obtain ⟨hc, hf⟩ := bcell hb2
  have hz := hb2.size
  simp only [World.size_alloc] at hc hf hz
  have k2 : w.heap.size < w2.heap.size := by omega
  have hB := hB0.trans (hb2.mono hB0.size)
  go_wp2
  refine bodyPost_ret (v := ratV (m.r.num, m.r.den, 0)) (by simp [results, Tryz.results14, go_sem, ratV, hc, k2]) rfl ⟨rfl, ?_⟩
  (have hBs := hB.size; (try simp only [World.size_alloc] at hBs); repeat' (first | (with_reducible exact hB) | (with_reducible exact hBs) | (with_reducible refine Below.drew ?_) | (with_reducible refine below_drewN ?_ _) | (with_reducible refine Below.setCell ?_ ?_ _) | (with_reducible refine Below.alloc ?_ ?_ _) | go_size | omega | (simp; omega)))
end Go.Proofs.YtaanhddgmiggfaaGreat
