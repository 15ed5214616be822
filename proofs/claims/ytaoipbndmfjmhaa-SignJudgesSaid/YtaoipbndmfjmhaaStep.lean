/- The contract of Step. -/
import Derived.Test.YtaoipbndmfjmhaaSpec
namespace Go.Proofs.Ytaoipbndmfjmhaa
open Go.RowKit Go.Joins

theorem wrap8 (q : Int) : IntKind.u8.wrap q = ((lo8 q).toNat : Int) := by
  simp only [IntKind.wrap, IntKind.signed, IntKind.bits, Bool.false_and, Bool.false_eq_true, if_false, lo8, BitVec.toNat_ofInt]
  have : (0 : Int) ≤ q % 2 ^ 8 := Int.emod_nonneg _ (by decide)
  rw [Int.toNat_of_nonneg (by exact this)]
  rfl
theorem cellsB_two (a b : BitVec 8) : cellsB [a, b] = [U8 a, U8 b] := rfl

set_option maxRecDepth 100000 in
set_option maxHeartbeats 1000000 in
theorem step_any (i k : Int) (x : BitVec 64) (w : World) :
    Calls Try.prog 13 #[.int .i64 i, .int .i64 k, U64 x] w fun e w' => e = .returned (U64 (stp i k x)) ∧ Below w.heap.size w w' := by
  obtain ⟨i0, hi, hz0, hz1, hz2⟩ := info_parts infoB
  have HB : Hid (∀ W : World, _) := fun W => bytes_any x W
  have HO : Hid (∀ (G : Option Addr) (c : Nat) (W : World), isB G (lo8 i :: lo8 k :: bytes8 x) W → Calls Try.prog 33 #[.slice G (2 + 8) c] W fun e w' => e = .returned (U64 (stp i k x)) ∧ Below W.heap.size W w') := fun G c W h => by
    have hl : (lo8 i :: lo8 k :: bytes8 x).length = 2 + 8 := by rw [List.length_cons, List.length_cons, bytes8_len]
    have := of_any G c (lo8 i :: lo8 k :: bytes8 x) (by rw [hl]; decide) W h
    rwa [hl] at this
  have lb : (cellsB (bytes8 x)).length = 8 * 1 := by rw [cellsB_len, bytes8_len]
  have ob := cellsB_one (bytes8 x)
  have hc : Hid (cellsB [lo8 i, lo8 k] ++ cellsB (bytes8 x) = cellsB (lo8 i :: lo8 k :: bytes8 x)) := (cellsB_append _ _).symm
  have hNb : Hid (∀ (G : Option Addr) (W : World), isB G (bytes8 x) W → (8 ≠ 0 → ∃ ad, G = some ad ∧ ∀ j u, (cellsB (bytes8 x))[j]? = some u → W.cell? (ad.add j) = some u)) := fun G W h => by
    have := h.news; rwa [bytes8_len] at this
  have hib : Hid (∀ (G : Option Addr) (c base : Nat) (W : World), W.ownsRow base 5 1 (.slice G 8 c) 8 (cellsB (bytes8 x)) → isB G (bytes8 x) W) := fun _ _ _ _ h => isB_of_own h
  have hi2 : Hid (∀ (G : Option Addr) (c base : Nat) (W : World), W.ownsRow base 5 1 (.slice G (2 + 8) c) (2 + 8) (cellsB (lo8 i :: lo8 k :: bytes8 x)) → isB G (lo8 i :: lo8 k :: bytes8 x) W) := fun _ _ _ _ h => isB_of_own h
  obtain ⟨r, hr⟩ : ∃ r, stp i k x = r := ⟨_, rfl⟩
  rw [hr] at HO
  have HR := Lib.hid hr
  clear hr
  generalize bytes8 x = lb' at *
  have ei := wrap8 i
  have ek := wrap8 k
  generalize lo8 i = ui at *
  generalize lo8 k = uk at *
  go_enter Try.func13, Try.ntmps13
  go_wp2_with fail
  have h1 : (w.alloc (.cells #[U8 ui, U8 uk] 5)).ownsRow w.heap.size 5 1 (.slice (some ⟨w.heap.size, 0, none⟩) 2 2) 2 (cellsB [ui, uk]) :=
    World.ownsRow_lit w #[U8 ui, U8 uk] 2 (Nat.le_refl _) (by decide) rfl
  have hb1 : Below w.heap.size w (w.alloc (.cells #[U8 ui, U8 uk] 5)) := (Below.refl _ w).alloc (Nat.le_refl _) _
  generalize w.alloc (.cells #[U8 ui, U8 uk] 5) = w1 at h1 hb1 ⊢
  (with_reducible refine (HB.out _).mono ?_); rintro e w2 ⟨rfl, h2, hb2⟩
  replace h1 := own_below h1 hb2
  have hW := hb1.trans (hb2.mono hb1.size)
  have hB2 := hib.out _ _ _ _ h2
  have hn := hNb.out _ _ hB2
  generalize w1.heap.size = g1 at hn hB2 ⊢
  clear hb1 hb2 h2 hB2
  go_wp2_with (at_builtin; refine app_any _ rfl _ _ 42 rfl w.heap.size 5 i0 _ 1 1 Try.underlying42 hi hz0 hz1 hz2 rfl (by decide) (.slice (some ⟨w.heap.size, 0, none⟩) 2 2) 2 _ rfl h1 (some ⟨g1, 0, none⟩) 8 8 (cellsB lb') rfl lb hn ob (by unfold maxLen; omega) (by omega) hW.size ?_; intro v3 w3 hown3 hg3; have hB3 := hW.grown hg3 hW.size (fun k e => own_block_le h1 k e); rw [hc.out] at hown3; obtain ⟨g3, cg3, rfl⟩ := own_slice hown3; have hi3 := hi2.out _ _ _ _ hown3)
  clear h1 hW hown3 hg3 hn
  (with_reducible refine (HO.out _ _ _ hi3).mono ?_); rintro e w4 ⟨rfl, hb4⟩
  have hB4 := hB3.trans (hb4.mono hB3.size)
  go_wp2_with fail
  go_ret
  exact ⟨by rw [HR.out]; rfl, hB4⟩
end Go.Proofs.Ytaoipbndmfjmhaa
