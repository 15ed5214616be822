/- CrcParts returns true. -/
import Derived.Test.YtjlnaihlndmlfabTrailer
namespace Go.Proofs.Ytjlnaihlndmlfab
open Go.RowKit Go.Joins
namespace Parts

theorem comb_n {x y : BitVec 32} (m : Nat) (i : Int) (hi : i = m) (hm : m ≤ 1048576) (r : BitVec 32) (hr : comb x y m = r) (W : World) :
    Calls Try.prog 15 #[U32 x, U32 y, .int .i64 i] W fun e w' => e = .returned (U32 r) ∧ Below W.heap.size W w' := by subst hi hr; exact combine_any x y m hm W
theorem comb_assoc (x y z : BitVec 32) (n m : Nat) : comb x (comb y z m) (n + m) = comb (comb x y n) z m := by
  unfold comb
  rw [it_xor, ← it_add, BitVec.xor_assoc, show 8 * (n + m) = 8 * n + 8 * m by omega]
theorem comb_zero (x : BitVec 32) : comb x 0#32 0 = x := by unfold comb; simp [it]
theorem zero_comb (y : BitVec 32) (n : Nat) : comb 0#32 y n = y := by unfold comb; rw [it_zero, BitVec.zero_xor]

set_option maxRecDepth 100000 in
set_option maxHeartbeats 8000000 in
theorem walk (A : Option Addr) (ca : Nat) (a : List (BitVec 8)) (B : Option Addr) (cb : Nat) (b : List (BitVec 8)) (C : Option Addr) (cc : Nat) (c : List (BitVec 8)) (w : World) (hda : Data w A ca a) (hdb : Data w B cb b) (hdc : Data w C cc c) :
    Calls Try.prog 4 #[.slice A a.length ca, .slice B b.length cb, .slice C c.length cc] w fun e w' => e = .returned (.bool true) ∧ Below w.heap.size w w' := by
  have HW : Hid (∀ W : World, _) := fun W => Aw.walk W
  have c1 := hda.cap
  have c2 := hdb.cap
  have c3 := hdc.cap
  have l1 := hda.len
  have l2 := hdb.len
  have l3 := hdc.len
  by_cases hn : a.length > 300 ∨ b.length > 300 ∨ c.length > 300
  · have hp : (decide ((300 : Int) < a.length) = true) ∨ (decide ((300 : Int) < a.length) = false ∧ decide ((300 : Int) < b.length) = true) ∨ (decide ((300 : Int) < a.length) = false ∧ decide ((300 : Int) < b.length) = false ∧ decide ((300 : Int) < c.length) = true) := by
      simp only [decide_eq_true_eq, decide_eq_false_iff_not]; omega
    clear hda hdb hdc hn
    generalize a.length = na at hp l1 ⊢
    generalize b.length = nb at hp l2 ⊢
    generalize c.length = nc at hp l3 ⊢
    rcases hp with h1 | ⟨h1, h2⟩ | ⟨h1, h2, h3⟩
    all_goals
      go_enter Try.func4, Try.ntmps4
      go_wp2_with fail
      (with_reducible refine (HW.out _).mono ?_); rintro e w1 ⟨rfl, hb⟩
      go_wp2_with fail
      go_ret
      exact ⟨rfl, hb⟩
  · obtain ⟨i0, hi, hz0, hz1, hz2⟩ := info_parts infoB
    obtain ⟨x, hx⟩ : ∃ x, sum a = x := ⟨_, rfl⟩
    obtain ⟨y, hy⟩ : ∃ y, sum b = y := ⟨_, rfl⟩
    obtain ⟨z, hz⟩ : ∃ z, sum c = z := ⟨_, rfl⟩
    obtain ⟨s2, hs2⟩ : ∃ s, sum (a ++ b) = s := ⟨_, rfl⟩
    obtain ⟨s3, hs3⟩ : ∃ s, sum (a ++ b ++ c) = s := ⟨_, rfl⟩
    obtain ⟨yz, hyz⟩ : ∃ s, comb y z c.length = s := ⟨_, rfl⟩
    obtain ⟨u1, hu1⟩ : ∃ s, upd x b = s := ⟨_, rfl⟩
    have m1 : comb x y b.length = s2 := by rw [← hs2, sum_append, hx, hy]
    have m2 : comb s2 z c.length = s3 := by rw [← hs3, sum_append, hs2, hz]
    have m3 : comb x yz (b.length + c.length) = s3 := by rw [← hyz, comb_assoc, m1, m2]
    have m4 : upd u1 c = s3 := by
      rw [← hu1, ← hx]; show upd (upd (upd 0#32 a) b) c = s3; rw [← upd_append, ← upd_append, ← List.append_assoc]; exact hs3
    have m5 : upd 0#32 (a ++ b) = s2 := hs2
    obtain ⟨na, hna⟩ : ∃ n, a.length = n := ⟨_, rfl⟩
    obtain ⟨nb, hnb⟩ : ∃ n, b.length = n := ⟨_, rfl⟩
    obtain ⟨nc, hnc⟩ : ∃ n, c.length = n := ⟨_, rfl⟩
    rw [hnb] at m1 m3
    rw [hnc] at m2 m3 hyz
    rw [hna, hnb, hnc] at hn
    rw [hna] at l1 ⊢
    rw [hnb] at l2 ⊢
    rw [hnc] at l3 ⊢
    have n1 : na ≤ 300 := by omega
    have n2 : nb ≤ 300 := by omega
    have n3 : nc ≤ 300 := by omega
    have KA : Hid (∀ v, Below w.heap.size w v → isB A a v) := fun v h => hda.row.keep h
    have KB : Hid (∀ v, Below w.heap.size w v → isB B b v) := fun v h => hdb.row.keep h
    have KC : Hid (∀ v, Below w.heap.size w v → isB C c v) := fun v h => hdc.row.keep h
    have HSa : Hid (∀ W, Below w.heap.size w W → _) := fun W h => sum_n (cap := ca) na hna x hx (by omega) W (KA.out W h)
    have HSb : Hid (∀ W, Below w.heap.size w W → _) := fun W h => sum_n (cap := cb) nb hnb y hy (by omega) W (KB.out W h)
    have HSc : Hid (∀ W, Below w.heap.size w W → _) := fun W h => sum_n (cap := cc) nc hnc z hz (by omega) W (KC.out W h)
    have HS3 : Hid (∀ (G : Option Addr) (g : Nat) (W : World), isB G (a ++ b ++ c) W → _) := fun G g W h => sum_n (cap := g) (na + nb + nc) (by rw [List.length_append, List.length_append, hna, hnb, hnc]) s3 hs3 (by omega) W h
    have HU1 : Hid (∀ W, Below w.heap.size w W → _) := fun W h => update_n (cap := cb) nb hnb x u1 hu1 (by omega) W (KB.out W h)
    have HU2 : Hid (∀ W, Below w.heap.size w W → _) := fun W h => update_n (cap := cc) nc hnc u1 s3 m4 (by omega) W (KC.out W h)
    have HU3 : Hid (∀ (G : Option Addr) (g : Nat) (W : World), isB G (a ++ b) W → Calls Try.prog 16 #[.int .u32 0, .slice G (na + nb) g] W fun e w' => e = .returned (U32 s2) ∧ Below W.heap.size W w') := fun G g W h => update_n (cap := g) (na + nb) (by simp [hna, hnb]) 0#32 s2 m5 (by omega) W h
    have HC1 : Hid (∀ W : World, _) := fun W => comb_n nb nb rfl (by omega) s2 m1 W
    have HC2 : Hid (∀ W : World, _) := fun W => comb_n nc nc rfl (by omega) s3 m2 W
    have HC3 : Hid (∀ W : World, _) := fun W => comb_n nc nc rfl (by omega) yz hyz W
    have HC4 : Hid (∀ W : World, _) := fun W => comb_n (nb + nc) ((nb : Int) + nc) (by omega) (by omega) s3 m3 W
    have HC5 : Hid (∀ W : World, Calls Try.prog 15 #[U32 x, .int .u32 0, .int .i64 0] W fun e w' => e = .returned (U32 x) ∧ Below W.heap.size W w') := fun W => comb_n 0 0 rfl (by omega) x (comb_zero x) W
    have HC6 : Hid (∀ W : World, Calls Try.prog 15 #[.int .u32 0, U32 y, .int .i64 nb] W fun e w' => e = .returned (U32 y) ∧ Below W.heap.size W w') := fun W => comb_n nb nb rfl (by omega) y (zero_comb y nb) W
    have oa := cellsB_one a
    have ob := cellsB_one b
    have oc := cellsB_one c
    have oab := cellsB_one (a ++ b)
    have la : (cellsB a).length = na * 1 := by rw [cellsB_len, hna, Nat.mul_one]
    have lb : (cellsB b).length = nb * 1 := by rw [cellsB_len, hnb, Nat.mul_one]
    have lc : (cellsB c).length = nc * 1 := by rw [cellsB_len, hnc, Nat.mul_one]
    have lab : (cellsB (a ++ b)).length = (na + nb) * 1 := by rw [cellsB_len, List.length_append, hna, hnb, Nat.mul_one]
    have NA : Hid (∀ v, Below w.heap.size w v → na ≠ 0 → ∃ ad, A = some ad ∧ ∀ j u, (cellsB a)[j]? = some u → v.cell? (ad.add j) = some u) := fun v h => by rw [← hna]; exact (KA.out v h).news
    have NB : Hid (∀ v, Below w.heap.size w v → nb ≠ 0 → ∃ ad, B = some ad ∧ ∀ j u, (cellsB b)[j]? = some u → v.cell? (ad.add j) = some u) := fun v h => by rw [← hnb]; exact (KB.out v h).news
    have NC : Hid (∀ v, Below w.heap.size w v → nc ≠ 0 → ∃ ad, C = some ad ∧ ∀ j u, (cellsB c)[j]? = some u → v.cell? (ad.add j) = some u) := fun v h => by rw [← hnc]; exact (KC.out v h).news
    have NAB : Hid (∀ (G : Option Addr) (v : World), isB G (a ++ b) v → na + nb ≠ 0 → ∃ ad, G = some ad ∧ ∀ j u, (cellsB (a ++ b))[j]? = some u → v.cell? (ad.add j) = some u) := fun G v h => by
      have := h.news
      rwa [List.length_append, hna, hnb] at this
    have e2 : Hid (cellsB a ++ cellsB b = cellsB (a ++ b)) := (cellsB_append a b).symm
    have e3 : Hid (cellsB (a ++ b) ++ cellsB c = cellsB (a ++ b ++ c)) := (cellsB_append (a ++ b) c).symm
    clear hda hdb hdc hx hy hz hs2 hs3 hyz hu1 m1 m2 m3 m4 m5 hna hnb hnc hn
    have hoe := own_empty w (Nat.le_refl _)
    have hBe := (Below.refl w.heap.size w).alloc (Nat.le_refl _) (.cells #[] 5)
    have hAn := NA.out _ hBe
    go_enter Try.func4, Try.ntmps4
    go_wp2_with (first
      | (at_builtin; refine app_any _ rfl (.tmp 28) (.tmp 29) 22 rfl w.heap.size 5 i0 _ 1 1 Try.underlying22 hi hz0 hz1 hz2 rfl (by decide) (.slice (some ⟨w.heap.size, 0, none⟩) 0 0) 0 [] rfl hoe A na ca (cellsB a) rfl la hAn oa (by unfold maxLen; omega) (by omega) hBe.size ?_; intro v1 w1 hown1 hg1; have hB1 : Below w.heap.size w w1 := hBe.grown hg1 hBe.size (fun k e => own_block_le hoe k e); rw [Nat.zero_add, List.nil_append] at hown1; obtain ⟨g1, cg1, rfl⟩ := own_slice hown1; have hBn := NB.out _ hB1)
      | (at_builtin; refine app_any _ rfl (.tmp 30) (.tmp 31) 22 rfl w.heap.size 5 i0 _ 1 1 Try.underlying22 hi hz0 hz1 hz2 rfl (by decide) (.slice g1 na cg1) na _ rfl hown1 B nb cb (cellsB b) rfl lb hBn ob (by unfold maxLen; omega) (by omega) hB1.size ?_; intro v2 w2 hown2 hg2; have hB2 : Below w.heap.size w w2 := hB1.grown hg2 hB1.size (fun k e => own_block_le hown1 k e); rw [e2.out] at hown2; obtain ⟨g2, cg2, rfl⟩ := own_slice hown2; have hi2 := isB_of_own hown2; have hoe2 := own_empty w2 (Nat.le_refl _); have hBe2 := (Below.refl w2.heap.size w2).alloc (Nat.le_refl _) (.cells #[] 5); have hABn := NAB.out _ _ (hi2.keep hBe2))
      | (at_builtin; refine app_any _ rfl (.tmp 33) (.tmp 34) 22 rfl w2.heap.size 5 i0 _ 1 1 Try.underlying22 hi hz0 hz1 hz2 rfl (by decide) (.slice (some ⟨w2.heap.size, 0, none⟩) 0 0) 0 [] rfl hoe2 g2 (na + nb) cg2 (cellsB (a ++ b)) rfl lab hABn oab (by unfold maxLen; omega) (by omega) hBe2.size ?_; intro v3 w3 hown3 hg3; have hB3 : Below w2.heap.size w2 w3 := hBe2.grown hg3 hBe2.size (fun k e => own_block_le hoe2 k e); rw [Nat.zero_add, List.nil_append] at hown3; obtain ⟨g3, cg3, rfl⟩ := own_slice hown3; have hCn := NC.out _ (hB2.trans (hB3.mono hB2.size)))
      | (at_builtin; refine app_any _ rfl (.tmp 35) (.tmp 36) 22 rfl w2.heap.size 5 i0 _ 1 1 Try.underlying22 hi hz0 hz1 hz2 rfl (by decide) (.slice g3 (na + nb) cg3) (na + nb) _ rfl hown3 C nc cc (cellsB c) rfl lc hCn oc (by unfold maxLen; omega) (by omega) hB3.size ?_; intro v4 w4 hown4 hg4; have hB4 : Below w2.heap.size w2 w4 := hB3.grown hg4 hB3.size (fun k e => own_block_le hown3 k e); rw [e3.out] at hown4; obtain ⟨g4, cg4, rfl⟩ := own_slice hown4; have hi4 := isB_of_own hown4))
    have hR : Below w.heap.size w w4 := hB2.trans (hB4.mono hB2.size)
    replace hi2 := hi2.keep hB4
    clear hown1 hown2 hown3 hown4 hg1 hg2 hg3 hg4 hoe hoe2 hBe hBe2 hB1 hB2 hB3 hB4 hAn hBn hABn hCn
    (with_reducible refine (HSa.out _ hR).mono ?_); rintro e w5 ⟨rfl, hb⟩
    replace hR := hR.trans (hb.mono hR.size)
    replace hi2 := hi2.keep hb
    replace hi4 := hi4.keep hb
    clear hb
    go_wp2_with fail
    (with_reducible refine (HSb.out _ hR).mono ?_); rintro e w6 ⟨rfl, hb⟩
    replace hR := hR.trans (hb.mono hR.size)
    replace hi2 := hi2.keep hb
    replace hi4 := hi4.keep hb
    clear hb
    go_wp2_with fail
    (with_reducible refine (HSc.out _ hR).mono ?_); rintro e w7 ⟨rfl, hb⟩
    replace hR := hR.trans (hb.mono hR.size)
    replace hi2 := hi2.keep hb
    replace hi4 := hi4.keep hb
    clear hb
    go_wp2_with fail
    (with_reducible refine (HC1.out _).mono ?_); rintro e w8 ⟨rfl, hb⟩
    replace hR := hR.trans (hb.mono hR.size)
    replace hi2 := hi2.keep hb
    replace hi4 := hi4.keep hb
    clear hb
    go_wp2_with fail
    (with_reducible refine (HC2.out _).mono ?_); rintro e w9 ⟨rfl, hb⟩
    replace hR := hR.trans (hb.mono hR.size)
    replace hi2 := hi2.keep hb
    replace hi4 := hi4.keep hb
    clear hb
    go_wp2_with fail
    (with_reducible refine (HC3.out _).mono ?_); rintro e w10 ⟨rfl, hb⟩
    replace hR := hR.trans (hb.mono hR.size)
    replace hi2 := hi2.keep hb
    replace hi4 := hi4.keep hb
    clear hb
    go_wp2_with fail
    (with_reducible refine (HC4.out _).mono ?_); rintro e w11 ⟨rfl, hb⟩
    replace hR := hR.trans (hb.mono hR.size)
    replace hi2 := hi2.keep hb
    replace hi4 := hi4.keep hb
    clear hb
    go_wp2_with fail
    (with_reducible refine (HU1.out _ hR).mono ?_); rintro e w12 ⟨rfl, hb⟩
    replace hR := hR.trans (hb.mono hR.size)
    replace hi2 := hi2.keep hb
    replace hi4 := hi4.keep hb
    clear hb
    go_wp2_with fail
    (with_reducible refine (HU2.out _ hR).mono ?_); rintro e w13 ⟨rfl, hb⟩
    replace hR := hR.trans (hb.mono hR.size)
    replace hi2 := hi2.keep hb
    replace hi4 := hi4.keep hb
    clear hb
    go_wp2_with fail
    (with_reducible refine (HS3.out _ _ _ hi4).mono ?_); rintro e w14 ⟨rfl, hb⟩
    replace hR := hR.trans (hb.mono hR.size)
    replace hi2 := hi2.keep hb
    replace hi4 := hi4.keep hb
    clear hb
    go_wp2_with fail
    (with_reducible refine (HU3.out _ _ _ hi2).mono ?_); rintro e w15 ⟨rfl, hb⟩
    replace hR := hR.trans (hb.mono hR.size)
    replace hi2 := hi2.keep hb
    replace hi4 := hi4.keep hb
    clear hb
    go_wp2_with fail
    (with_reducible refine (HC1.out _).mono ?_); rintro e w16 ⟨rfl, hb⟩
    replace hR := hR.trans (hb.mono hR.size)
    replace hi2 := hi2.keep hb
    replace hi4 := hi4.keep hb
    clear hb
    go_wp2_with fail
    (with_reducible refine (HS3.out _ _ _ hi4).mono ?_); rintro e w17 ⟨rfl, hb⟩
    replace hR := hR.trans (hb.mono hR.size)
    replace hi2 := hi2.keep hb
    replace hi4 := hi4.keep hb
    clear hb
    go_wp2_with fail
    (with_reducible refine (HC5.out _).mono ?_); rintro e w18 ⟨rfl, hb⟩
    replace hR := hR.trans (hb.mono hR.size)
    replace hi2 := hi2.keep hb
    replace hi4 := hi4.keep hb
    clear hb
    go_wp2_with fail
    (with_reducible refine (HC6.out _).mono ?_); rintro e w19 ⟨rfl, hb⟩
    replace hR := hR.trans (hb.mono hR.size)
    replace hi2 := hi2.keep hb
    replace hi4 := hi4.keep hb
    clear hb
    go_wp2_with fail
    (with_reducible refine (HW.out _).mono ?_); rintro e w20 ⟨rfl, hb⟩
    replace hR := hR.trans (hb.mono hR.size)
    replace hi2 := hi2.keep hb
    replace hi4 := hi4.keep hb
    clear hb
    go_wp2_with fail
    go_ret
    exact ⟨rfl, hR⟩
end Parts
end Go.Proofs.Ytjlnaihlndmlfab
