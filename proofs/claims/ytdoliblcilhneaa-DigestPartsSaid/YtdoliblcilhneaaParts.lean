/- DigestParts returns true. -/
import Derived.Test.YtdoliblcilhneaaShare
import Derived.Test.YtdoliblcilhneaaCls
namespace Go.Proofs.Ytdoliblcilhneaa
open Go.RowKit Go.Joins
namespace DParts

theorem add_nat (n : BitVec 64) (a b : Nat) : n + BitVec.ofNat 64 a + BitVec.ofNat 64 b = n + BitVec.ofNat 64 (a + b) := by
  rw [BitVec.ofNat_add, BitVec.add_assoc]

set_option maxRecDepth 100000 in
set_option maxHeartbeats 1000000 in
theorem walk (A : Option Addr) (ca : Nat) (a : List (BitVec 8)) (B : Option Addr) (cb : Nat) (b : List (BitVec 8)) (C : Option Addr) (cc : Nat) (c : List (BitVec 8)) (s n : Int) (w : World) (hda : Data w A ca a) (hdb : Data w B cb b) (hdc : Data w C cc c) (hs0 : 0 ≤ s) (hs1 : s ≤ 18446744073709551615) (hn0 : -9223372036854775808 ≤ n) (hn1 : n ≤ 9223372036854775807) :
    Calls Try.prog 5 #[.slice A a.length ca, .slice B b.length cb, .slice C c.length cc, .agg #[.int .u64 s, .int .i64 n]] w fun e w' => e = .returned (.bool true) ∧ Below w.heap.size w w' := by
  obtain ⟨s, rfl⟩ := int_bv (n := 64) hs0 (by omega)
  obtain ⟨n, rfl⟩ := int_bvs hn0 hn1
  have HW : Hid (∀ W : World, _) := fun W => Aw.walk W
  have c1 := hda.cap
  have c2 := hdb.cap
  have c3 := hdc.cap
  have l1 := hda.len
  have l2 := hdb.len
  have l3 := hdc.len
  by_cases hn : a.length > 300 ∨ b.length > 300 ∨ c.length > 300
  · have hp : (decide ((300 : Int) < a.length) = true) ∨ (decide ((300 : Int) < a.length) = false ∧ decide ((300 : Int) < b.length) = true) ∨ (decide ((300 : Int) < a.length) = false ∧ decide ((300 : Int) < b.length) = false ∧ decide ((300 : Int) < c.length) = true) := by
      simp only [decide_eq_true_eq, decide_eq_false_iff_not]; omega
    clear hda hdb hdc hn
    generalize a.length = na at hp l1 ⊢
    generalize b.length = nb at hp l2 ⊢
    generalize c.length = nc at hp l3 ⊢
    have hB0 := (Below.refl w.heap.size w).alloc (Nat.le_refl _) (.cells #[U64 s, I64 n] 26)
    have HB0 := Lib.hid hB0
    clear hB0
    rcases hp with h1 | ⟨h1, h2⟩ | ⟨h1, h2, h3⟩
    all_goals
      go_enter Try.func5, Try.ntmps5
      go_wp2_with fail
      (with_reducible refine (HW.out _).mono ?_); rintro e w1 ⟨rfl, hb⟩
      go_wp2_with fail
      go_ret
      exact ⟨rfl, HB0.out.trans (hb.mono HB0.out.size)⟩
  · obtain ⟨na, hna⟩ : ∃ n, a.length = n := ⟨_, rfl⟩
    obtain ⟨nb, hnb⟩ : ∃ n, b.length = n := ⟨_, rfl⟩
    obtain ⟨nc, hnc⟩ : ∃ n, c.length = n := ⟨_, rfl⟩
    rw [hna, hnb, hnc] at hn
    rw [hna] at l1 ⊢
    rw [hnb] at l2 ⊢
    rw [hnc] at l3 ⊢
    have n1 : na ≤ 300 := by omega
    have n2 : nb ≤ 300 := by omega
    have n3 : nc ≤ 300 := by omega
    have hd1 : decide ((300 : Int) < na) = false := by simp; omega
    have hd2 : decide ((300 : Int) < nb) = false := by simp; omega
    have hd3 : decide ((300 : Int) < nc) = false := by simp; omega
    obtain ⟨nab, hab⟩ : ∃ k, na + nb = k := ⟨_, rfl⟩
    obtain ⟨nbc, hbc⟩ : ∃ k, nb + nc = k := ⟨_, rfl⟩
    obtain ⟨nabc, habc⟩ : ∃ k, nab + nc = k := ⟨_, rfl⟩
    have m1 : nab ≤ 900 := by omega
    have m2 : nbc ≤ 900 := by omega
    have m3 : nabc ≤ 900 := by omega
    have lab : (a ++ b).length = nab := by rw [List.length_append, hna, hnb, hab]
    have lbc : (b ++ c).length = nbc := by rw [List.length_append, hnb, hnc, hbc]
    have labc : (a ++ b ++ c).length = nabc := by rw [List.length_append, lab, hnc, habc]
    -- the values
    obtain ⟨s1, hs1'⟩ : ∃ r, ad s a = r := ⟨_, rfl⟩
    obtain ⟨k1, hk1⟩ : ∃ r, n + BitVec.ofNat 64 na = r := ⟨_, rfl⟩
    obtain ⟨s2, hs2⟩ : ∃ r, ad s1 b = r := ⟨_, rfl⟩
    obtain ⟨k2, hk2⟩ : ∃ r, k1 + BitVec.ofNat 64 nb = r := ⟨_, rfl⟩
    obtain ⟨X, hX⟩ : ∃ r, ad s2 c = r := ⟨_, rfl⟩
    obtain ⟨K, hK⟩ : ∃ r, k2 + BitVec.ofNat 64 nc = r := ⟨_, rfl⟩
    obtain ⟨z1, hz1⟩ : ∃ r, ad start (a ++ b) = r := ⟨_, rfl⟩
    obtain ⟨j1, hj1⟩ : ∃ r, 0#64 + BitVec.ofNat 64 nab = r := ⟨_, rfl⟩
    obtain ⟨Z, hZ⟩ : ∃ r, ad z1 c = r := ⟨_, rfl⟩
    obtain ⟨J, hJ⟩ : ∃ r, j1 + BitVec.ofNat 64 nc = r := ⟨_, rfl⟩
    obtain ⟨R, hR⟩ : ∃ r, dg (a ++ b ++ c) = r := ⟨_, rfl⟩
    have v1 : ad s1 (b ++ c) = X := by rw [ad_append, hs2, hX]
    have v2 : k1 + BitVec.ofNat 64 nbc = K := by rw [← hK, ← hk2, add_nat, ← hbc]
    have v3 : ad s (a ++ b ++ c) = X := by rw [ad_append, ad_append, hs1', hs2, hX]
    have v4 : n + BitVec.ofNat 64 nabc = K := by
      rw [← hK, ← hk2, ← hk1, add_nat, add_nat, ← habc, ← hab, Nat.add_assoc]
    have v5 : fin Z J = R := by
      rw [← hR, ← hZ, ← hz1, ← ad_append, ← hJ, ← hj1, add_nat, habc, BitVec.zero_add]
      unfold dg; rw [labc]
    have v6 : n + BitVec.ofNat 64 0 = n := by rw [show BitVec.ofNat 64 0 = 0#64 from rfl, BitVec.add_zero]
    have KA : Hid (∀ v, Below w.heap.size w v → isB A a v) := fun v h => hda.row.keep h
    have KB : Hid (∀ v, Below w.heap.size w v → isB B b v) := fun v h => hdb.row.keep h
    have KC : Hid (∀ v, Below w.heap.size w v → isB C c v) := fun v h => hdc.row.keep h
    have H1 : Hid (∀ W, isB A a W → _) := fun W h => add_n (cap := ca) na hna s n s1 k1 hs1' hk1 (by omega) W h
    have H2 : Hid (∀ W, isB B b W → _) := fun W h => add_n (cap := cb) nb hnb s1 k1 s2 k2 hs2 hk2 (by omega) W h
    have H3 : Hid (∀ W, isB C c W → _) := fun W h => add_n (cap := cc) nc hnc s2 k2 X K hX hK (by omega) W h
    have H4 : Hid (∀ (G : Option Addr) (g : Nat) (W : World), isB G (b ++ c) W → _) := fun G g W h => add_n (cap := g) nbc lbc s1 k1 X K v1 v2 (by omega) W h
    have H5 : Hid (∀ (G : Option Addr) (g : Nat) (W : World), isB G (a ++ b) W → _) := fun G g W h => add_n (cap := g) nab lab start 0#64 z1 j1 hz1 hj1 (by omega) W h
    have H6 : Hid (∀ W, isB C c W → _) := fun W h => add_n (cap := cc) nc hnc z1 j1 Z J hZ hJ (by omega) W h
    have H7 : Hid (∀ (G : Option Addr) (g : Nat) (W : World), isB G (a ++ b ++ c) W → _) := fun G g W h => add_n (cap := g) nabc labc s n X K v3 v4 (by omega) W h
    have H8 : Hid (∀ W : World, _) := fun W => add_n (A := none) (cap := 0) (l := []) 0 rfl s n s n rfl v6 (by decide) W (isB.nil _ _)
    have H9 : Hid (∀ (G : Option Addr) (g : Nat) (W : World), isB G (a ++ b ++ c) W → _) := fun G g W h => of_n (cap := g) nabc labc R hR (by omega) W h
    have HF : Hid (∀ W : World, _) := fun W => fin_n Z J R v5 W
    have HN : Hid (∀ W : World, _) := new_any
    generalize start = st at H5 HN
    have IB : Hid (∀ (G : Option Addr) (g k base : Nat) (l : List (BitVec 8)) (W : World), W.ownsRow base 5 1 (.slice G k g) k (cellsB l) → isB G l W) := fun _ _ _ _ _ _ h => isB_of_own h
    have Hab := Lib.hid hab
    have Hbc := Lib.hid hbc
    have Habc := Lib.hid habc
    have Ha := Lib.hid hna
    have Hb := Lib.hid hnb
    have Hc := Lib.hid hnc
    have hz := zero_St
    have b7 := BoxN.new w 26 #[U64 s, I64 n]
    have hB0 := (Below.refl w.heap.size w).alloc (Nat.le_refl _) (.cells #[U64 s, I64 n] 26)
    have hoe := own_empty (base := w.heap.size + 1) (w.alloc (.cells #[U64 s, I64 n] 26)) (by simp)
    have hBe := hB0.alloc hB0.size (.cells #[] 5)
    have b7e := b7.alloc (.cells #[] 5)
    rw [World.size_alloc] at hoe
    have hze : w.heap.size + 1 ≤ ((w.alloc (.cells #[U64 s, I64 n] 26)).alloc (.cells #[] 5)).heap.size := by simp
    have hiA := KA.out _ hBe
    have hw1 : w.heap.size ≤ w.heap.size + 1 := Nat.le_succ _
    have hcl : Hid (cellsB [] = []) := rfl
    rw [← hcl.out] at hoe
    clear hda hdb hdc hn hna hnb hnc hab hbc habc lab lbc labc hs1' hk1 hs2 hk2 hX hK hz1 hj1 hZ hJ hR v1 v2 v3 v4 v5 v6
    go_enter Try.func5, Try.ntmps5
    go_wp2_with (first
      | (at_builtin; refine app_arm _ rfl (.tmp 28) (.tmp 29) rfl (w.heap.size + 1) _ 0 0 [] rfl hoe A na ca a rfl Ha.out hiA na (Nat.zero_add _) (by omega) hze ?_; intro G1 d1 w1 hown1 hg1; have hB1 := hBe.trans (hg1.mono hw1); have hz1 : w.heap.size + 1 ≤ w1.heap.size := Nat.le_trans hze hg1.size; have hiB := KB.out _ hB1; have b71 := b7e.below hg1 (Nat.lt_succ_self _); rw [List.nil_append] at hown1)
      | (at_builtin; refine app_arm _ rfl (.tmp 30) (.tmp 31) rfl (w.heap.size + 1) G1 na d1 a rfl hown1 B nb cb b rfl Hb.out hiB nab Hab.out (by omega) hz1 ?_; intro G2 d2 w2 hown2 hg2; have hB2 := hB1.trans (hg2.mono hw1); have hz2 : w.heap.size + 1 ≤ w2.heap.size := Nat.le_trans hz1 hg2.size; have hiC := KC.out _ hB2; have b72 := b71.below hg2 (Nat.lt_succ_self _))
      | (at_builtin; refine app_arm _ rfl (.tmp 32) (.tmp 33) rfl (w.heap.size + 1) G2 nab d2 (a ++ b) rfl hown2 C nc cc c rfl Hc.out hiC nabc Habc.out (by omega) hz2 ?_; intro G3 d3 w3 hown3 hg3; have hB3 := hB2.trans (hg3.mono hw1); have b73 := b72.below hg3 (Nat.lt_succ_self _); have y0 : w3.cell? ⟨w.heap.size, 0, none⟩ = some (U64 s) := b73.cell 0; have y1 : w3.cell? ⟨w.heap.size, 1, none⟩ = some (I64 n) := b73.cell 1; have yl := b73.lt; have i9 := IB.out _ _ _ _ _ _ hown3; clear hown1 hown2 hown3 hg1 hg2 hg3 hB1 hB2 hz1 hz2 hiA hiB hiC b71 b72 hoe hBe hze b7e b7))
    clear y0 y1
    have hR := hB3
    have b7 := b73
    clear hB3 b73 yl
    have Bg10 := BoxN.new w3 26 #[U64 s, I64 n]
    have hbl := (Below.refl w3.heap.size w3).alloc (Nat.le_refl _) (.cells #[U64 s, I64 n] 26)
    replace hR := hR.trans (hbl.mono hR.size)
    replace b7 := b7.keep hbl
    replace i9 := i9.keep hbl
    clear hbl
    generalize w3.alloc (.cells #[U64 s, I64 n] 26) = W3 at b7 i9 hR Bg10 ⊢
    generalize w3.heap.size = g10 at Bg10 ⊢
    (with_reducible refine (H1.out _ (KA.out _ hR)).mono ?_); rintro e w4 ⟨rfl, hb⟩
    replace hR := hR.trans (hb.mono hR.size)
    replace b7 := b7.keep hb
    replace i9 := i9.keep hb
    replace Bg10 := Bg10.keep hb
    clear hb
    go_wp2_with fail
    (with_reducible refine (H2.out _ (KB.out _ hR)).mono ?_); rintro e w5 ⟨rfl, hb⟩
    replace hR := hR.trans (hb.mono hR.size)
    replace b7 := b7.keep hb
    replace i9 := i9.keep hb
    replace Bg10 := Bg10.keep hb
    clear hb
    go_wp2_with fail
    (with_reducible refine (H3.out _ (KC.out _ hR)).mono ?_); rintro e w6 ⟨rfl, hb⟩
    replace hR := hR.trans (hb.mono hR.size)
    replace b7 := b7.keep hb
    replace i9 := i9.keep hb
    replace Bg10 := Bg10.keep hb
    clear hb
    have y0 : w6.cell? ⟨w.heap.size, 0, none⟩ = some (U64 s) := b7.cell 0
    have y1 : w6.cell? ⟨w.heap.size, 1, none⟩ = some (I64 n) := b7.cell 1
    have yl := b7.lt
    go_wp2_with fail
    clear y0 y1 yl
    have Bg11 := BoxN.new w6 26 #[U64 X, I64 K]
    have hbl := (Below.refl w6.heap.size w6).alloc (Nat.le_refl _) (.cells #[U64 X, I64 K] 26)
    replace hR := hR.trans (hbl.mono hR.size)
    replace b7 := b7.keep hbl
    replace i9 := i9.keep hbl
    replace Bg10 := Bg10.keep hbl
    clear hbl
    generalize w6.alloc (.cells #[U64 X, I64 K] 26) = W6 at b7 i9 Bg10 hR Bg11 ⊢
    generalize w6.heap.size = g11 at Bg11 ⊢
    (with_reducible refine (H1.out _ (KA.out _ hR)).mono ?_); rintro e w7 ⟨rfl, hb⟩
    replace hR := hR.trans (hb.mono hR.size)
    replace b7 := b7.keep hb
    replace i9 := i9.keep hb
    replace Bg10 := Bg10.keep hb
    replace Bg11 := Bg11.keep hb
    clear hb
    have hoe := own_empty w7 (Nat.le_refl _)
    have hBe := (Below.refl w7.heap.size w7).alloc (Nat.le_refl _) (.cells #[] 5)
    have hi1 := KB.out _ (hR.trans (hBe.mono hR.size))
    have hi2' : Hid (∀ v, Below w7.heap.size w7 v → isB C c v) := fun v h => KC.out v (hR.trans (h.mono hR.size))
    rw [← hcl.out] at hoe
    go_wp2_with (first
      | (at_builtin; refine app_arm _ rfl (.tmp 46) (.tmp 47) rfl w7.heap.size _ 0 0 [] rfl hoe B nb _ b rfl Hb.out hi1 nb (Nat.zero_add _) (by omega) hBe.size ?_; intro G1 d1 u1 hown1 hg1; have hB1 := hBe.trans hg1; have hi3 := hi2'.out _ hB1; rw [List.nil_append] at hown1)
      | (at_builtin; refine app_arm _ rfl (.tmp 48) (.tmp 49) rfl w7.heap.size G1 nb d1 b rfl hown1 C nc _ c rfl Hc.out hi3 nbc Hbc.out (by omega) hB1.size ?_; intro G2 d2 w8 hown2 hg2; have hb := hB1.trans hg2; have ix := IB.out _ _ _ _ _ _ hown2; clear hown1 hown2 hg1 hg2 hB1 hi1 hi3))
    clear hoe hBe hi2'
    replace hR := hR.trans (hb.mono hR.size)
    replace b7 := b7.keep hb
    replace i9 := i9.keep hb
    replace Bg10 := Bg10.keep hb
    replace Bg11 := Bg11.keep hb
    clear hb
    (with_reducible refine (H4.out _ _ _ ix).mono ?_); rintro e w9 ⟨rfl, hb⟩
    replace hR := hR.trans (hb.mono hR.size)
    replace b7 := b7.keep hb
    replace i9 := i9.keep hb
    replace Bg10 := Bg10.keep hb
    replace Bg11 := Bg11.keep hb
    clear hb
    clear ix
    go_wp2_with fail
    have Bg12 := BoxN.new w9 26 #[U64 X, I64 K]
    have hbl := (Below.refl w9.heap.size w9).alloc (Nat.le_refl _) (.cells #[U64 X, I64 K] 26)
    replace hR := hR.trans (hbl.mono hR.size)
    replace b7 := b7.keep hbl
    replace i9 := i9.keep hbl
    replace Bg10 := Bg10.keep hbl
    replace Bg11 := Bg11.keep hbl
    clear hbl
    generalize w9.alloc (.cells #[U64 X, I64 K] 26) = W9 at b7 i9 Bg10 Bg11 hR Bg12 ⊢
    generalize w9.heap.size = g12 at Bg12 ⊢
    (with_reducible refine (HN.out _).mono ?_); rintro e w10 ⟨rfl, hb⟩
    replace hR := hR.trans (hb.mono hR.size)
    replace b7 := b7.keep hb
    replace i9 := i9.keep hb
    replace Bg10 := Bg10.keep hb
    replace Bg11 := Bg11.keep hb
    replace Bg12 := Bg12.keep hb
    clear hb
    have hoe := own_empty w10 (Nat.le_refl _)
    have hBe := (Below.refl w10.heap.size w10).alloc (Nat.le_refl _) (.cells #[] 5)
    have hi1 := KA.out _ (hR.trans (hBe.mono hR.size))
    have hi2' : Hid (∀ v, Below w10.heap.size w10 v → isB B b v) := fun v h => KB.out v (hR.trans (h.mono hR.size))
    rw [← hcl.out] at hoe
    go_wp2_with (first
      | (at_builtin; refine app_arm _ rfl (.tmp 53) (.tmp 54) rfl w10.heap.size _ 0 0 [] rfl hoe A na _ a rfl Ha.out hi1 na (Nat.zero_add _) (by omega) hBe.size ?_; intro G1 d1 u1 hown1 hg1; have hB1 := hBe.trans hg1; have hi3 := hi2'.out _ hB1; rw [List.nil_append] at hown1)
      | (at_builtin; refine app_arm _ rfl (.tmp 55) (.tmp 56) rfl w10.heap.size G1 na d1 a rfl hown1 B nb _ b rfl Hb.out hi3 nab Hab.out (by omega) hB1.size ?_; intro G2 d2 w11 hown2 hg2; have hb := hB1.trans hg2; have ix := IB.out _ _ _ _ _ _ hown2; clear hown1 hown2 hg1 hg2 hB1 hi1 hi3))
    clear hoe hBe hi2'
    replace hR := hR.trans (hb.mono hR.size)
    replace b7 := b7.keep hb
    replace i9 := i9.keep hb
    replace Bg10 := Bg10.keep hb
    replace Bg11 := Bg11.keep hb
    replace Bg12 := Bg12.keep hb
    clear hb
    (with_reducible refine (H5.out _ _ _ ix).mono ?_); rintro e w12 ⟨rfl, hb⟩
    replace hR := hR.trans (hb.mono hR.size)
    replace b7 := b7.keep hb
    replace i9 := i9.keep hb
    replace Bg10 := Bg10.keep hb
    replace Bg11 := Bg11.keep hb
    replace Bg12 := Bg12.keep hb
    clear hb
    clear ix
    go_wp2_with fail
    (with_reducible refine (H6.out _ (KC.out _ hR)).mono ?_); rintro e w13 ⟨rfl, hb⟩
    replace hR := hR.trans (hb.mono hR.size)
    replace b7 := b7.keep hb
    replace i9 := i9.keep hb
    replace Bg10 := Bg10.keep hb
    replace Bg11 := Bg11.keep hb
    replace Bg12 := Bg12.keep hb
    clear hb
    go_wp2_with fail
    have Bg13 := BoxN.new w13 26 #[U64 Z, I64 J]
    have hbl := (Below.refl w13.heap.size w13).alloc (Nat.le_refl _) (.cells #[U64 Z, I64 J] 26)
    replace hR := hR.trans (hbl.mono hR.size)
    replace b7 := b7.keep hbl
    replace i9 := i9.keep hbl
    replace Bg10 := Bg10.keep hbl
    replace Bg11 := Bg11.keep hbl
    replace Bg12 := Bg12.keep hbl
    clear hbl
    generalize w13.alloc (.cells #[U64 Z, I64 J] 26) = W13 at b7 i9 Bg10 Bg11 Bg12 hR Bg13 ⊢
    generalize w13.heap.size = g13 at Bg13 ⊢
    have cell2 : ∀ (g : Nat) (x y : BitVec 64), BoxN W13 g 26 #[U64 x, I64 y] → (∀ q : Wd (Gr W13), q.val.cell? ⟨g, 0, none⟩ = some (U64 x)) ∧ (∀ q : Wd (Gr W13), q.val.cell? ⟨g, 1, none⟩ = some (I64 y)) := fun g x y h =>
      ⟨Gr.cell (h.cell 0) h.lt, Gr.cell (h.cell 1) h.lt⟩
    obtain ⟨f0, f1⟩ := cell2 _ _ _ b7
    obtain ⟨f2, f3⟩ := cell2 _ _ _ Bg10
    obtain ⟨f4, f5⟩ := cell2 _ _ _ Bg11
    obtain ⟨f6, f7⟩ := cell2 _ _ _ Bg12
    obtain ⟨f8, f9⟩ := cell2 _ _ _ Bg13
    have G7 : Hid (∀ q : Wd (Gr W13), _) := fun q => H7.out G3 d3 q.val (i9.keep q.ok)
    have G8 : Hid (∀ q : Wd (Gr W13), _) := fun q => H8.out q.val
    have G9 : Hid (∀ q : Wd (Gr W13), _) := fun q => H9.out G3 d3 q.val (i9.keep q.ok)
    have GF : Hid (∀ q : Wd (Gr W13), _) := fun q => HF.out q.val
    have GW : Hid (∀ q : Wd (Gr W13), _) := fun q => HW.out q.val
    have hS : Hid (∀ W W' : World, Gr W13 W → Below W.heap.size W W' → Gr W13 W') := Gr.close
    haveI : Nonempty (Wd (Gr W13)) := ⟨⟨W13, Below.refl _ _⟩⟩
    clear cell2 b7 Bg10 Bg11 Bg12 Bg13 i9 H1 H2 H3 H4 H5 H6 H7 H8 H9 HF HN HW KA KB KC IB Hab Hbc Habc Ha Hb Hc hz hd1 hd2 hd3 hcl hw1 m1 m2 m3 n1 n2 n3 l1 l2 l3 c1 c2 c3
    refine wp_region_cls (Gr W13) (by kernel_rfl) (by kernel_rfl) (Gr.start W13) ?_
    repeat (go_big_quiet_step (first
        | (go_at_call 11; with_reducible exact Calls.cls hS.out (G7.out _))
        | (go_at_call 11; with_reducible exact Calls.cls hS.out (G8.out _))
        | (go_at_call 17; with_reducible exact Calls.cls hS.out (G9.out _))
        | (go_at_call 15; with_reducible exact Calls.cls hS.out (GF.out _))
        | (go_at_call 10; with_reducible exact Calls.cls hS.out (GW.out _))))
    refine wpQuiet_nil ?_
    intro _ hw'
    obtain ⟨s0, rfl⟩ := hw'
    have hE := hR.trans (Below.mono s0.ok hR.size)
    generalize s0.val = v1 at hE ⊢
    clear f0 f1 f2 f3 f4 f5 f6 f7 f8 f9 G7 G8 G9 GF GW hS this
    go_wp2_with fail
    go_ret
    exact ⟨rfl, hE⟩
end DParts
end Go.Proofs.Ytdoliblcilhneaa
