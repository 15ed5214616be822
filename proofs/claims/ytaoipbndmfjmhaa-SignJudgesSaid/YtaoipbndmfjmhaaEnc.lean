/- The contract of Encode. -/
import Derived.Test.YtaoipbndmfjmhaaSig
namespace Go.Proofs.Ytaoipbndmfjmhaa
open Go.RowKit Go.Joins

/-- The encoding of a signature. -/
def encB (q : Int) (f : Nat → BitVec 64) (l : List (BitVec 64)) : List (BitVec 8) := [lo8 q, lo8 (l.length : Int)] ++ bytesL (wds 18 f) ++ bytesL l
theorem encB_len (q : Int) (f : Nat → BitVec 64) (l : List (BitVec 64)) : (encB q f l).length = 146 + 8 * l.length := by
  simp only [encB, List.length_append, bytesL_len, wds_len, List.length_cons, List.length_nil]
theorem okK_len {q : Int} {n : Nat} (h : okK q (n : Int) = true) : n ≤ 6 := by
  unfold okK at h
  have := of_decide_eq_true h
  omega
theorem isQ_sig {W : World} {g : Nat} {t : TypeId} {q : Int} {f : Nat → BitVec 64} {p : Value} (h : BoxN W g t (sgA q f p)) : isQ (some ⟨g, 1, none⟩) (wds 18 f) W := fun _ =>
  ⟨g, 1, rfl, h.lt, fun k z hk => by
    have hk18 : k < 18 := by
      have := (List.getElem?_eq_some_iff.1 hk).1
      rwa [wds_len] at this
    rw [wds_get _ _ _ hk18] at hk
    cases hk
    rw [h.cell, sgA_chain q f p k hk18]⟩

set_option maxRecDepth 100000 in
set_option maxHeartbeats 2000000 in
theorem encode_okC (q : Int) (f : Nat → BitVec 64) (G : Option Addr) (c : Nat) (l : List (BitVec 64)) (hk : okK q (l.length : Int) = true) (w : World) (hl : isQ G l w) :
    Calls Try.prog 23 #[.agg (sgA q f (.slice G l.length c))] w fun e w' => ∃ G' c', e = .returned (.tuple #[.slice G' (146 + 8 * l.length) c', .int .i64 0]) ∧ isB G' (encB q f l) w' ∧ Below w.heap.size w w' ∧ 146 + 8 * l.length ≤ c' := by
  obtain ⟨i0, hi, hz0, hz1, hz2⟩ := info_parts infoB
  have hn6 := okK_len hk
  have HK : Hid (∀ W : World, Calls Try.prog 44 #[.int .i64 q, .int .i64 (l.length : Int)] W fun e w' => e = .returned (.bool true) ∧ Below W.heap.size W w') := fun W => by
    have := isKey_any q (l.length : Int) W
    rwa [hk] at this
  have HC : Hid (∀ (g cp : Nat) (W : World), BoxN W g 34 (sgA q f (.slice G l.length c)) → Calls Try.prog 47 #[.slice (some ⟨g, 1, none⟩) 18 cp] W fun e w' => ∃ G c, e = .returned (.slice G 144 c) ∧ isB G (bytesL (wds 18 f)) w' ∧ Below W.heap.size W w') := fun g cp W h => by
    have := bytesOf_any (some ⟨g, 1, none⟩) cp (wds 18 f) (by rw [wds_len]; decide) W (isQ_sig h)
    rw [wds_len] at this
    refine this.mono ?_
    rintro e w' ⟨G, c, rfl, _, h2, h3⟩
    exact ⟨G, c, rfl, h2, h3⟩
  have HP : Hid (∀ (W : World), isQ G l W → Calls Try.prog 47 #[.slice G l.length c] W fun e w' => ∃ G c, e = .returned (.slice G (8 * l.length) c) ∧ isB G (bytesL l) w' ∧ Below W.heap.size W w') := fun W h => by
    refine (bytesOf_any G c l (by omega) W h).mono ?_
    rintro e w' ⟨G, c, rfl, _, h2, h3⟩
    exact ⟨G, c, rfl, h2, h3⟩
  have b0 := BoxN.new w 34 (sgA q f (.slice G l.length c))
  have hB : Below w.heap.size w (w.alloc (.cells (sgA q f (.slice G l.length c)) 34)) := (Below.refl _ w).alloc (Nat.le_refl _) _
  have hkey := sgA_key q f (.slice G l.length c)
  have hpth := sgA_path q f (.slice G l.length c)
  have hcB : (cellsB (bytesL (wds 18 f))).length = 144 * 1 := by rw [cellsB_len, bytesL_len, wds_len]
  have hcP : (cellsB (bytesL l)).length = (8 * l.length) * 1 := by rw [cellsB_len, bytesL_len]; omega
  have oB := cellsB_one (bytesL (wds 18 f))
  have oP := cellsB_one (bytesL l)
  have hNB : Hid (∀ (A : Option Addr) (W : World), isB A (bytesL (wds 18 f)) W → (144 ≠ 0 → ∃ ad, A = some ad ∧ ∀ j u, (cellsB (bytesL (wds 18 f)))[j]? = some u → W.cell? (ad.add j) = some u)) := fun A W h => by
    have := h.news; rwa [bytesL_len, wds_len] at this
  have hNP : Hid (∀ (A : Option Addr) (W : World), isB A (bytesL l) W → (8 * l.length ≠ 0 → ∃ ad, A = some ad ∧ ∀ j u, (cellsB (bytesL l))[j]? = some u → W.cell? (ad.add j) = some u)) := fun A W h => by
    have := h.news; rwa [bytesL_len] at this
  have hend : Hid (cellsB [lo8 q, lo8 (l.length : Int)] ++ cellsB (bytesL (wds 18 f)) ++ cellsB (bytesL l) = cellsB (encB q f l)) := by unfold Hid encB; rw [cellsB_append, cellsB_append]
  have heN : Hid (2 + 144 + 8 * l.length = (encB q f l).length) := by unfold Hid; rw [encB_len]
  have eq := wrap8 q
  have en := wrap8 (l.length : Int)
  generalize bytesL (wds 18 f) = lB at *
  generalize bytesL l = lP at *
  generalize encB q f l = lE at *
  generalize lo8 q = uq at *
  generalize lo8 (l.length : Int) = un at *
  generalize sgA q f (.slice G l.length c) = T at *
  have H19 : Hid (T[19]? = some (.slice G l.length c)) := hpth
  have H0 : Hid (T[0]? = some (.int .i64 q)) := hkey
  clear hpth hkey hk
  go_enter Try.func23, Try.ntmps23
  have cf : Hid (∀ W, BoxN W w.heap.size 34 T → W.cell? ⟨w.heap.size, 0, none⟩ = some (.int .i64 q) ∧ W.cell? ⟨w.heap.size, 19, none⟩ = some (.slice G l.length c)) := fun W h => ⟨by rw [h.cell]; exact H0.out, by rw [h.cell]; exact H19.out⟩
  obtain ⟨c0, c19⟩ := cf.out _ b0
  go_wp2_with fail
  generalize w.alloc (.cells T 34) = w0 at b0 hB ⊢
  clear c0 c19
  (with_reducible refine (HK.out _).mono ?_); rintro e w1 ⟨rfl, hb1⟩
  replace b0 := b0.keep hb1
  replace hB := hB.trans (hb1.mono hB.size)
  obtain ⟨c0, c19⟩ := cf.out _ b0
  clear hb1
  go_wp2_with fail
  have hz1w := hB.size
  have h1 : (w1.alloc (.cells #[U8 uq, U8 un] 5)).ownsRow (w.heap.size + 1) 5 1 (.slice (some ⟨w1.heap.size, 0, none⟩) 2 2) 2 (cellsB [uq, un]) :=
    World.ownsRow_lit w1 #[U8 uq, U8 un] 2 b0.lt (by decide) rfl
  replace b0 := b0.alloc (.cells #[U8 uq, U8 un] 5)
  replace hB := hB.alloc hz1w (.cells #[U8 uq, U8 un] 5)
  generalize w1.alloc (.cells #[U8 uq, U8 un] 5) = w2 at h1 b0 hB ⊢
  generalize w1.heap.size = g1 at h1 ⊢
  clear c0 c19 hz1w
  (with_reducible refine (HC.out _ _ _ b0).mono ?_); rintro e w3 ⟨GB, cB, rfl, hiB, hb3⟩
  replace h1 := own_below h1 hb3
  replace b0 := b0.keep hb3
  replace hB := hB.trans (hb3.mono hB.size)
  have hnB := hNB.out _ _ hiB
  have hzB := hB.size
  clear hb3 hiB
  have hlt := b0.lt
  go_wp2_with (at_builtin; refine app_any _ rfl _ _ 42 rfl (w.heap.size + 1) 5 i0 _ 1 1 Try.underlying42 hi hz0 hz1 hz2 rfl (by decide) (.slice (some ⟨g1, 0, none⟩) 2 2) 2 _ rfl h1 GB 144 cB (cellsB lB) rfl hcB hnB oB (by unfold maxLen; omega) (by omega) hlt ?_; intro v4 w4 hown4 hg4; have hb4 := (hg4.block w.heap.size hlt (fun e => by have := own_block_le h1 _ e.symm; omega)).trans b0; have hB4 := hB.grown hg4 hzB (fun k e => by have := own_block_le h1 _ e; omega); have hz41 : w.heap.size + 1 ≤ w4.heap.size := BoxN.lt hb4; obtain ⟨g4, cg4, rfl⟩ := own_slice hown4; obtain ⟨c0, c19⟩ := cf.out _ hb4)
  clear h1 hg4 hnB c0 c19 b0 hB hzB hb4 hlt
  have hz4 := hB4.size
  (with_reducible refine (HP.out _ (hl.keep hB4)).mono ?_); rintro e w5 ⟨GP, cP, rfl, hiP, hb5⟩
  replace hown4 := own_below hown4 hb5
  have hnP := hNP.out _ _ hiP
  have hB5 := hB4.trans (hb5.mono hz4)
  have hzz : w.heap.size + 1 ≤ w5.heap.size := by
    have := hb5.size
    have h2 : w.heap.size + 1 ≤ w4.heap.size := hz41
    omega
  clear hb5 hiP
  go_wp2_with (at_builtin; refine app_any _ rfl _ _ 42 rfl (w.heap.size + 1) 5 i0 _ 1 1 Try.underlying42 hi hz0 hz1 hz2 rfl (by decide) (.slice g4 146 cg4) 146 _ rfl hown4 GP (8 * l.length) cP (cellsB lP) rfl hcP hnP oP (by unfold maxLen; omega) (by omega) hzz ?_; intro v6 w6 hown6 hg6; have hB6 := hB5.grown hg6 (by omega) (fun k e => by have := own_block_le hown4 _ e; omega); obtain ⟨g6, cg6, rfl⟩ := own_slice hown6)
  have hc6 := own_cap hown6
  rw [hend.out, show 146 + 8 * l.length = lE.length from heN.out] at hown6
  have hi6 := isB_of_own hown6
  clear hown4 hown6 hg6 hnP
  go_ret2
  exact ⟨g6, cg6, rfl, hi6, hB6, hc6⟩
theorem encode_ok (q : Int) (f : Nat → BitVec 64) (G : Option Addr) (c : Nat) (l : List (BitVec 64)) (hk : okK q (l.length : Int) = true) (w : World) (hl : isQ G l w) :
    Calls Try.prog 23 #[.agg (sgA q f (.slice G l.length c))] w fun e w' => ∃ G' c', e = .returned (.tuple #[.slice G' (146 + 8 * l.length) c', .int .i64 0]) ∧ isB G' (encB q f l) w' ∧ Below w.heap.size w w' :=
  (encode_okC q f G c l hk w hl).mono fun _ _ ⟨G, c, h1, h2, h3, _⟩ => ⟨G, c, h1, h2, h3⟩

set_option maxRecDepth 100000 in
set_option maxHeartbeats 1000000 in
theorem encode_bad (q : Int) (f : Nat → BitVec 64) (G : Option Addr) (n c : Nat) (hk : okK q (n : Int) = false) (w : World) :
    Calls Try.prog 23 #[.agg (sgA q f (.slice G n c))] w fun e w' => e = .returned (.tuple #[.slice none 0 0, .int .i64 2]) ∧ Below w.heap.size w w' := by
  have HK : Hid (∀ W : World, Calls Try.prog 44 #[.int .i64 q, .int .i64 (n : Int)] W fun e w' => e = .returned (.bool false) ∧ Below W.heap.size W w') := fun W => by
    have := isKey_any q (n : Int) W
    rwa [hk] at this
  have b0 := BoxN.new w 34 (sgA q f (.slice G n c))
  have hB : Below w.heap.size w (w.alloc (.cells (sgA q f (.slice G n c)) 34)) := (Below.refl _ w).alloc (Nat.le_refl _) _
  have c0 := b0.cell 0
  have c19 := b0.cell 19
  rw [sgA_key] at c0
  rw [sgA_path] at c19
  generalize sgA q f (.slice G n c) = T at *
  clear hk b0
  go_enter Try.func23, Try.ntmps23
  go_wp2_with fail
  clear c0 c19
  (with_reducible refine (HK.out _).mono ?_); rintro e w1 ⟨rfl, hb1⟩
  replace hB := hB.trans (hb1.mono hB.size)
  go_wp2_with fail
  go_ret2
  exact ⟨rfl, hB⟩
end Go.Proofs.Ytaoipbndmfjmhaa
