/- The contracts of New and of the methods of a signer that New made. -/
import Derived.Test.YtaoipbndmfjmhaaSigner
namespace Go.Proofs.Ytaoipbndmfjmhaa
open Go.RowKit Go.Joins

theorem SgC.cells {W : World} {g : Nat} {m : Bool} {seed : BitVec 64} {h u : Nat} (hb : BoxN W g 63 (SgC m seed h u)) :
    W.cell? ⟨g, 0, none⟩ = some (.bool m) ∧ W.cell? ⟨g, 1, none⟩ = some (.int .u64 (seed.toNat : Int)) ∧ W.cell? ⟨g, 2, none⟩ = some (.int .i64 h) ∧ W.cell? ⟨g, 3, none⟩ = some (.int .i64 u) :=
  ⟨hb.cell 0, hb.cell 1, hb.cell 2, hb.cell 3⟩

set_option maxRecDepth 100000 in
theorem new_ok (seed : BitVec 64) (h : Nat) (hh : h ≤ 6) (w : World) :
    Calls Try.prog 29 #[U64 seed, .int .i64 h] w fun e w' => ∃ g, e = .returned (.tuple #[.pointer (some ⟨g, 0, none⟩), .int .i64 0]) ∧ w.heap.size ≤ g ∧ BoxN w' g 63 (SgC true seed h 0) ∧ Below w.heap.size w w' := by
  have HH : Hid (∀ W : World, Calls Try.prog 42 #[.int .i64 h] W fun e w' => e = .returned (.bool true) ∧ Below W.heap.size W w') := fun W => by
    have := isHeight_any h W
    rwa [show okH (h : Int) = true by simp [okH]; omega] at this
  have hB := Below.refl w.heap.size w
  clear hh
  go_enter Try.func29, Try.ntmps29
  go_wp2_with fail
  (with_reducible refine (HH.out _).mono ?_); rintro e w1 ⟨rfl, hb1⟩
  replace hB := hB.trans (hb1.mono hB.size)
  have hz := hB.size
  go_wp2_with fail
  go_ret2
  exact ⟨_, rfl, hz, BoxN.new w1 _ _, hB.alloc hz _⟩

set_option maxRecDepth 100000 in
theorem left_yes (g : Nat) (seed : BitVec 64) (h u : Nat) (hh : h ≤ 6) (hu : u ≤ 2 ^ h) (w : World) (hb : BoxN w g 63 (SgC true seed h u)) :
    Calls Try.prog 31 #[.pointer (some ⟨g, 0, none⟩)] w fun e w' => e = .returned (.int .i64 ((2 ^ h - u : Nat) : Int)) ∧ Below w.heap.size w w' := by
  have HM := Lib.hid (made_yes g seed h u w hb)
  have HKy : Hid (∀ W : World, _) := fun W => keys_any h hh W
  have h64 : 2 ^ h ≤ 2 ^ 6 := Nat.pow_le_pow_right (by decide) hh
  have hB := Below.refl w.heap.size w
  generalize 2 ^ h = n at *
  have en : (n : Int) - (u : Int) = ((n - u : Nat) : Int) := by omega
  have hn64 : n ≤ 64 := h64
  go_enter Try.func31, Try.ntmps31
  go_wp2_with fail
  (with_reducible refine HM.out.mono ?_); rintro e w1 ⟨rfl, hb1⟩
  replace hB := hB.trans (hb1.mono hB.size)
  replace hb := hb.keep hb1
  obtain ⟨_, _, c2, c3⟩ := SgC.cells hb
  have hl := hb.lt
  have hbd := BoxN.drew hb
  have hBd : Below w.heap.size w w1.drew := hB.drew
  have hge : w.heap.size ≤ w1.heap.size := hB.size
  have wn : IntKind.i64.wrap ((n - u : Nat) : Int) = ((n - u : Nat) : Int) := wrapI (by omega) (by omega)
  clear hb1 hb
  go_upto_region 3 with fail
  go_region_with (go_at_call 53; (with_reducible refine (HKy.out _).mono ?_); rintro e w2 ⟨rfl, hb2⟩; have b2 := BoxN.keep hbd hb2; obtain ⟨_, _, k2, k3⟩ := SgC.cells b2; have hl2 := b2.lt; have kB := Lib.hid (hBd.trans (hb2.mono (by simpa using hge))); clear b2 hb2)
  all_goals
    go_wp2_with fail
    go_ret
    exact ⟨rfl, kB.out⟩

set_option maxRecDepth 100000 in
theorem mroot_yes (g : Nat) (seed : BitVec 64) (h u : Nat) (hh : h ≤ 6) (w : World) (hb : BoxN w g 63 (SgC true seed h u)) :
    Calls Try.prog 30 #[.pointer (some ⟨g, 0, none⟩)] w fun e w' => e = .returned (U64 (rootV seed h)) ∧ Below w.heap.size w w' := by
  have HM := Lib.hid (made_yes g seed h u w hb)
  have HR : Hid (∀ W : World, _) := fun W => root_ok seed h hh W
  generalize rootV seed h = R at *
  have hB := Below.refl w.heap.size w
  go_enter Try.func30, Try.ntmps30
  go_wp2_with fail
  (with_reducible refine HM.out.mono ?_); rintro e w1 ⟨rfl, hb1⟩
  replace hB := hB.trans (hb1.mono hB.size)
  replace hb := hb.keep hb1
  obtain ⟨_, c1, c2, _⟩ := SgC.cells hb
  have hl := hb.lt
  clear hb1
  go_wp2_with fail
  go_region_with (go_at_call 17; (with_reducible refine (HR.out _).mono ?_); rintro e w2 ⟨rfl, hb2⟩; have kB := Lib.hid ((Below.drew hB).trans (hb2.mono (by simpa using hB.size))); clear hb2)
  all_goals
    go_wp2_with fail
    go_ret
    exact ⟨rfl, kB.out⟩
end Go.Proofs.Ytaoipbndmfjmhaa
