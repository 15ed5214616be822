/- The contracts of bytesOf, public and Public. -/
import Derived.Test.YtaoipbndmfjmhaaAdv
namespace Go.Proofs.Ytaoipbndmfjmhaa
open Go.RowKit Go.Joins

/-- The words that a slice reads. -/
def isQ (A : Option Addr) (l : List (BitVec 64)) (W : World) : Prop := l ≠ [] → ∃ b off, A = some ⟨b, off, none⟩ ∧ b < W.heap.size ∧ ∀ k z, l[k]? = some z → W.cell? ⟨b, off + k, none⟩ = some (U64 z)
theorem isQ.keep {A : Option Addr} {l : List (BitVec 64)} {w w' : World} (h : isQ A l w) (hb : Below w.heap.size w w') : isQ A l w' := fun hz => by
  obtain ⟨b, off, e, hl, hr⟩ := h hz
  exact ⟨b, off, e, Nat.lt_of_lt_of_le hl hb.size, fun k z hk => (hb.cell (p := ⟨b, off + k, none⟩) hl).trans (hr k z hk)⟩
theorem isQ.nil (A : Option Addr) (W : World) : isQ A [] W := fun h => absurd rfl h
theorem isQ_box {W : World} {b : Nat} {t : TypeId} {l : List (BitVec 64)} {cs : Array Value} (h : BoxN W b t cs) (hc : ∀ (k : Nat) z, l[k]? = some z → cs[k]? = some (U64 z)) : isQ (some ⟨b, 0, none⟩) l W := fun _ =>
  ⟨b, 0, rfl, h.lt, fun k z hk => by rw [Nat.zero_add, h.cell k]; exact hc k z hk⟩

set_option maxRecDepth 100000 in
set_option maxHeartbeats 1000000 in
theorem bytesOf_any (A : Option Addr) (cap : Nat) (l : List (BitVec 64)) (hlen : l.length ≤ 1000) (w : World) (hl : isQ A l w) :
    Calls Try.prog 47 #[.slice A l.length cap] w fun e w' => ∃ G c, e = .returned (.slice G (8 * l.length) c) ∧ w'.ownsRow w.heap.size 5 1 (.slice G (8 * l.length) c) (8 * l.length) (cellsB (bytesL l)) ∧ isB G (bytesL l) w' ∧ Below w.heap.size w w' := by
  obtain ⟨i0, hi0, hz0, hz1, hz2⟩ := info_parts infoB
  have HB : Hid (∀ (x : BitVec 64) (W : World), _) := fun x W => bytes_any x W
  have hB : Below w.heap.size w w := Below.refl _ _
  have hown : w.ownsRow w.heap.size 5 1 (.slice none 0 0) 0 [] := ⟨rfl, .inl ⟨rfl, rfl⟩⟩
  go_enter Try.func47, Try.ntmps47
  go_wp2_with fail
  go_loopw [3, 8] (fun v i wr => ∃ k : Nat, k ≤ l.length ∧ i = .int .i64 k ∧ wr.ownsRow w.heap.size 5 1 v (8 * k) (cellsB (bytesL (l.take k))) ∧ Below w.heap.size w wr)
    (fun _ i _ => (l.length - (intOf i).toNat))
  case atStart => exact ⟨0, Nat.zero_le _, rfl, by simpa [bytesL, cellsB] using hown, hB⟩
  case round =>
    clear hB hown
    obtain ⟨k, hk, rfl, hown, hB⟩ := hrel
    by_cases hlt : k < l.length
    · have hd : decide ((k : Int) < (l.length : Int)) = true := by simp; omega
      have hgk : l[k]? = some l[k] := List.getElem?_eq_getElem hlt
      obtain ⟨z, hz⟩ : ∃ z, l[k] = z := ⟨_, rfl⟩
      rw [hz] at hgk
      obtain ⟨b, off, rfl, hbl, hr⟩ := hl (by intro h; rw [h] at hlt; simp at hlt)
      have hc := (hB.cell (p := ⟨b, off + k, none⟩) hbl).trans (hr k z hgk)
      have hts : Hid (cellsB (bytesL (l.take k)) ++ cellsB (bytes8 z) = cellsB (bytesL (l.take (k + 1)))) := by
        unfold Hid; rw [take_snoc' hgk, bytesL_snoc, cellsB_append]
      have HBz := Lib.hid (HB.out z)
      have lb : (cellsB (bytes8 z)).length = 8 * 1 := by rw [cellsB_len, bytes8_len]
      have ob := cellsB_one (bytes8 z)
      have hNb : Hid (∀ (G : Option Addr) (W : World), isB G (bytes8 z) W → (8 ≠ 0 → ∃ ad, G = some ad ∧ ∀ j u, (cellsB (bytes8 z))[j]? = some u → W.cell? (ad.add j) = some u)) := fun G W h => by
        have := h.news; rwa [bytes8_len] at this
      have hib : Hid (∀ (G : Option Addr) (c base : Nat) (W : World), W.ownsRow base 5 1 (.slice G 8 c) 8 (cellsB (bytes8 z)) → isB G (bytes8 z) W) := fun _ _ _ _ h => isB_of_own h
      generalize cellsB (bytesL (l.take k)) = xs at *
      obtain ⟨g0, c0, rfl⟩ := own_slice hown
      clear hgk hz hr hl
      go_wp2_with fail
      (with_reducible refine (HBz.out _).mono ?_); rintro e w2 ⟨rfl, h2, hb2⟩
      have hB2 := hib.out _ _ _ _ h2
      have hn := hNb.out _ _ hB2
      replace hown := own_below hown hb2
      replace hB := hB.trans (hb2.mono hB.size)
      have hsz := hB.size
      generalize wr.heap.size = g1 at hn ⊢
      clear hb2 h2 hB2 hib hNb HBz
      go_wp2_with (at_builtin; refine app_any _ rfl _ _ 42 rfl w.heap.size 5 i0 _ 1 1 Try.underlying42 hi0 hz0 hz1 hz2 rfl (by decide) (.slice g0 (8 * k) c0) (8 * k) _ rfl hown (some ⟨g1, 0, none⟩) 8 8 (cellsB (bytes8 z)) rfl lb hn ob (by unfold maxLen; omega) (by omega) hsz ?_; intro v3 w3 hown3 hg3; have hB3 := hB.grown hg3 hsz (fun k e => own_block_le hown k e); rw [hts.out] at hown3)
      go_roundw
      case rel => exact ⟨k + 1, by omega, by go_num, by rw [show 8 * (k + 1) = 8 * k + 8 by omega]; exact hown3, hB3⟩
      case measure => simp [intOf]; omega
    · obtain rfl : k = l.length := by omega
      rw [List.take_length] at hown
      obtain ⟨g0, c0, rfl⟩ := own_slice hown
      have hH := Lib.hid hown
      clear hown
      go_wp2_with fail
      go_ret
      exact ⟨g0, c0, rfl, hH.out, isB_of_own hH.out, hB⟩

set_option maxRecDepth 100000 in
set_option maxHeartbeats 1000000 in
theorem public_any (f : Nat → BitVec 64) (w : World) :
    Calls Try.prog 37 #[.agg (rowW f 18)] w fun e w' => e = .returned (U64 (pubV f)) ∧ Below w.heap.size w w' := by
  have HB : Hid (∀ (G : Nat) (c : Nat) (W : World), BoxN W G 31 (rowW f 18) → Calls Try.prog 47 #[.slice (some ⟨G, 0, none⟩) 18 c] W fun e w' => ∃ G c, e = .returned (.slice G 144 c) ∧ isB G (bytesL (wds 18 f)) w' ∧ Below W.heap.size W w') := fun G c W h => by
    have := bytesOf_any (some ⟨G, 0, none⟩) c (wds 18 f) (by rw [wds_len]; decide) W (isQ_box h fun k z hk => by
      have hk18 : k < 18 := by
        have := (List.getElem?_eq_some_iff.1 hk).1
        rwa [wds_len] at this
      rw [wds_get _ _ _ hk18] at hk
      cases hk
      exact rowW_get _ _ _ hk18)
    rw [wds_len] at this
    refine this.mono ?_
    rintro e w' ⟨G, c, rfl, _, h2, h3⟩
    exact ⟨G, c, rfl, h2, h3⟩
  have HO : Hid (∀ (G : Option Addr) (c : Nat) (W : World), isB G (bytesL (wds 18 f)) W → Calls Try.prog 33 #[.slice G 144 c] W fun e w' => e = .returned (U64 (pubV f)) ∧ Below W.heap.size W w') := fun G c W h => by
    have hl : (bytesL (wds 18 f)).length = 144 := by rw [bytesL_len, wds_len]
    have := of_any G c (bytesL (wds 18 f)) (by rw [hl]; decide) W h
    rwa [hl] at this
  have hRs : (rowW f 18).size = 18 := rowW_size _ _
  generalize rowW f 18 = R at *
  generalize bytesL (wds 18 f) = bs at *
  generalize pubV f = y at *
  go_enter Try.func37, Try.ntmps37
  go_wp2_with fail
  have b0 := BoxN.new w 31 R
  have hB : Below w.heap.size w (w.alloc (.cells R 31)) := (Below.refl _ w).alloc (Nat.le_refl _) _
  generalize w.alloc (.cells R 31) = w1 at b0 hB ⊢
  (with_reducible refine (HB.out _ _ _ b0).mono ?_); rintro e w2 ⟨G, c, rfl, h2, hb2⟩
  replace hB := hB.trans (hb2.mono hB.size)
  go_wp2_with fail
  (with_reducible refine (HO.out _ _ _ h2).mono ?_); rintro e w3 ⟨rfl, hb3⟩
  replace hB := hB.trans (hb3.mono hB.size)
  go_wp2_with fail
  go_ret
  exact ⟨rfl, hB⟩

set_option maxRecDepth 100000 in
set_option maxHeartbeats 1000000 in
theorem pubK_any (seed : BitVec 64) (q : Int) (w : World) :
    Calls Try.prog 15 #[U64 seed, .int .i64 q] w fun e w' => e = .returned (U64 (pubK seed q)) ∧ Below w.heap.size w w' := by
  have HS : Hid (∀ W : World, _) := fun W => secrets_any seed q W
  have HE : Hid (∀ W : World, _) := fun W => ends_any W
  have HA : Hid (∀ W : World, _) := fun W => advanced_any (secr seed q) (fun _ => 0) (fun _ => 15) (fun _ _ => Nat.le_refl _) W
  have HP : Hid (∀ W : World, Calls Try.prog 37 #[.agg (rowW (fun i => advTo i 0 15 (secr seed q i)) 18)] W fun e w' => e = .returned (U64 (pubK seed q)) ∧ Below W.heap.size W w') := fun W => public_any (fun i => val seed q i 15) W
  rw [show rowI (fun _ => 0) 18 = #[.int .i64 0, .int .i64 0, .int .i64 0, .int .i64 0, .int .i64 0, .int .i64 0, .int .i64 0, .int .i64 0, .int .i64 0, .int .i64 0, .int .i64 0, .int .i64 0, .int .i64 0, .int .i64 0, .int .i64 0, .int .i64 0, .int .i64 0, .int .i64 0] from rfl] at HA
  generalize rowW (secr seed q) 18 = R1 at *
  generalize rowI (fun _ => 15) 18 = R3 at *
  generalize rowW (fun i => advTo i 0 15 (secr seed q i)) 18 = R4 at *
  generalize pubK seed q = y at *
  have hB := Below.refl w.heap.size w
  go_enter Try.func15, Try.ntmps15
  go_wp2_with fail
  (with_reducible refine (HS.out _).mono ?_); rintro e w1 ⟨rfl, hb1⟩
  replace hB := hB.trans (hb1.mono hB.size)
  go_wp2_with fail
  (with_reducible refine (HE.out _).mono ?_); rintro e w2 ⟨rfl, hb2⟩
  replace hB := hB.trans (hb2.mono hB.size)
  go_wp2_with fail
  (with_reducible refine (HA.out _).mono ?_); rintro e w3 ⟨rfl, hb3⟩
  replace hB := hB.trans (hb3.mono hB.size)
  go_wp2_with fail
  (with_reducible refine (HP.out _).mono ?_); rintro e w4 ⟨rfl, hb4⟩
  replace hB := hB.trans (hb4.mono hB.size)
  go_wp2_with fail
  go_ret
  exact ⟨rfl, hB⟩
end Go.Proofs.Ytaoipbndmfjmhaa
