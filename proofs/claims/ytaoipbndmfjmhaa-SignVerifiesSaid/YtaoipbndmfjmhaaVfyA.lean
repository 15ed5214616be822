/- SignVerifies: its walk up to the loop, and what a round and the loop's end have to show. -/
import Derived.Test.YtaoipbndmfjmhaaAwake
import Derived.Test.YtaoipbndmfjmhaaSame
import Derived.Test.YtaoipbndmfjmhaaSigner4
import Derived.Test.YtaoipbndmfjmhaaDecOk
import Derived.Test.YtaoipbndmfjmhaaAdvLaw
namespace Go.Proofs.Ytaoipbndmfjmhaa
open Go.RowKit Go.Joins
structure Lock (p : Prop) : Prop where
  out : p
/-- A walk cut into pieces: what the pieces say is found by the walk up to them. -/
structure Cut (Q : Prop) where
  p1 : Prop
  p2 : Prop
  p3 : Prop
  run : Lock p1 → Lock p2 → Lock p3 → Q
theorem min_two (a m b : Int) (hm : m = min a b) (t : Array TypeId) (ty : TypeId) (W : World) : (Builtin.min_ t ty #[.int .i64 a, .int .i64 b]).run Try.prog W = .ok (.int .i64 m) W := by
  simp only [Builtin.min_, Builtin.min2, List.foldlM, bind_pure]
  simp only [Sem.run_pure, Result.ok.injEq, Value.int.injEq, true_and, and_true]
  omega
theorem max_two (a m b : Int) (hm : m = max a b) (t : Array TypeId) (ty : TypeId) (W : World) : (Builtin.max_ t ty #[.int .i64 a, .int .i64 b]).run Try.prog W = .ok (.int .i64 m) W := by
  simp only [Builtin.max_, Builtin.max2, List.foldlM, bind_pure]
  simp only [Sem.run_pure, Result.ok.injEq, Value.int.injEq, true_and, and_true]
  omega
namespace Vfy
set_option maxRecDepth 100000 in
set_option maxHeartbeats 8000000 in
noncomputable def step : Cut (∀ (seed : BitVec 64) (hb : Nat) (_ : hb ≤ 255) (A : Option Addr) (cap : Nat) (ds : List (BitVec 64)) (_ : ds.length ≤ cap) (_ : ds.length ≤ 9223372036854775807) (w : World) (_ : isQ A ds w),
    Calls Try.prog 5 #[U64 seed, .int .u8 hb, .slice A ds.length cap] w fun r w' => r = .returned (.bool true) ∧ Below w.heap.size w w') := by
  refine ⟨?p1, ?p2, ?p3, fun H1 H2 H3 => ?_⟩
  rotate_left 3
  intro seed hb h255 A cap ds hcap hlen w hds
  obtain ⟨h, hh⟩ : ∃ h, hb % 3 = h := ⟨_, rfl⟩
  have hh2 : h ≤ 2 := by omega
  have em : (hb : Int) % 3 = (h : Int) := by omega
  have HR : Hid (∀ W : World, _) := fun W => root_ok seed h (by omega) W
  have HNw : Hid (∀ W : World, _) := fun W => new_ok seed h (by omega) W
  have HMr : Hid (∀ (g u : Nat) (W : World), BoxN W g 63 (SgC true seed h u) → _) := fun g u W hb => mroot_yes g seed h u (by omega) W hb
  obtain ⟨R, hR⟩ : ∃ R, rootV seed h = R := ⟨_, rfl⟩
  rw [hR] at HR HMr
  have HRt := Lib.hid hR
  clear hR
  have hB := Below.refl w.heap.size w
  obtain ⟨L, hL⟩ : ∃ L, ds.length = L := ⟨_, rfl⟩
  rw [hL] at hcap hlen ⊢
  go_enter Try.func5, Try.ntmps5
  go_wp2_with fail
  (with_reducible refine (HR.out _).mono ?_); rintro e w1 ⟨rfl, hb1⟩
  replace hB := hB.trans (hb1.mono hB.size)
  clear hb1
  go_wp2_with fail
  (with_reducible refine (HNw.out _).mono ?_); rintro e w2 ⟨g, rfl, hg1, bS, hb1⟩
  have hgw : w.heap.size ≤ g := Nat.le_trans hB.size hg1
  replace hB := hB.trans (hb1.mono hB.size)
  clear hb1 hg1
  go_wp2_with fail
  (with_reducible refine (HMr.out _ _ _ bS).mono ?_); rintro e w3 ⟨rfl, hb1⟩
  replace hB := hB.trans (hb1.mono hB.size)
  replace bS := bS.keep hb1
  clear hb1
  have hsh : wrap64 ((2 : Int) ^ h) = ((2 ^ h : Nat) : Int) := by
    have h1 : (2 : Int) ^ h = ((2 ^ h : Nat) : Int) := (Int.natCast_pow 2 h).symm
    have h2 : 2 ^ h ≤ 2 ^ 6 := Nat.pow_le_pow_right (by decide) (by omega)
    rw [h1]
    generalize 2 ^ h = m at h2 ⊢
    unfold wrap64
    omega
  have hsh2 : IntKind.i64.wrap ((2 : Int) ^ h) = ((2 ^ h : Nat) : Int) := by
    have h1 : (2 : Int) ^ h = ((2 ^ h : Nat) : Int) := (Int.natCast_pow 2 h).symm
    have h2 : 2 ^ h ≤ 2 ^ 6 := Nat.pow_le_pow_right (by decide) (by omega)
    rw [h1]
    generalize 2 ^ h = m at h2 ⊢
    exact wrapI (by omega) (by omega)
  obtain ⟨N, hN⟩ : ∃ N, 2 ^ h = N := ⟨_, rfl⟩
  have hN4 : N ≤ 4 := by
    have h3 : h = 0 ∨ h = 1 ∨ h = 2 := by omega
    rcases h3 with rfl | rfl | rfl <;> (rw [← hN]; decide)
  have hN0 : 0 < N := by rw [← hN]; exact Nat.pow_pos (by decide)
  rw [hN] at hsh hsh2
  have HLf : Hid (∀ (u lf : Nat) (W : World), u ≤ N → N - u = lf → BoxN W g 63 (SgC true seed h u) → Calls Try.prog 31 #[.pointer (some ⟨g, 0, none⟩)] W fun e w' => e = .returned (.int .i64 (lf : Int)) ∧ Below W.heap.size W w') := fun u lf W hu hlf hb => by
    subst hN
    subst hlf
    exact left_yes g seed h u (by omega) hu W hb
  have hhm : Hid (hb % 3 = h) := hh
  have HNp : Hid (2 ^ h = N) := hN
  clear HNw HR HMr hN hh
  obtain ⟨M, hM⟩ : ∃ M, min L 5 = M := ⟨_, rfl⟩
  have hmin := fun W => min_two L M 5 (by omega) #[3, 3] 3 W
  have hM5 : M ≤ 5 := by omega
  have hML : M ≤ L := by omega
  have hMc : M ≤ cap := by omega
  rcases A with _ | a
  · have hL0 : L = 0 := by
      by_cases h0 : L = 0
      · exact h0
      · obtain ⟨b, off, hA, _⟩ := hds (by intro e; rw [e] at hL; simp at hL; omega)
        cases hA
    obtain rfl : M = 0 := by omega
    go_wp2_with fail
    go_loopw [55] (fun i wr => i = .int .i64 0 ∧ Below w.heap.size w wr)
      (fun i _ => 0)
    case atStart => exact ⟨rfl, hB⟩
    case round =>
      clear bS hB
      obtain ⟨rfl, hB⟩ := hrel
      have HW : Hid (∀ W : World, _) := fun W => awake_true W
      go_wp2_with fail
      (with_reducible refine (HW.out _).mono ?_); rintro e w5 ⟨rfl, hb1⟩
      go_wp2_with fail
      go_ret
      exact ⟨rfl, hB.trans (hb1.mono hB.size)⟩
  · go_wp2_with fail
    go_loopw [55] (fun i wr => ∃ k : Nat, k ≤ M ∧ i = .int .i64 k ∧ BoxN wr g 63 (SgC true seed h (min k N)) ∧ Below w.heap.size w wr)
      (fun i _ => (5 - intOf i).toNat)
    case atStart => exact ⟨0, by omega, rfl, by simpa using bS, hB⟩
    case round =>
      clear bS hB hmin
      obtain ⟨k, hk, rfl, bS, hB⟩ := hrel
      by_cases hlt : k < M
      · rename_i Q' K hK
        clear hK
        clear_value Q'
        clear H2 H3 w1 w2 w3
        revert seed hb cap ds w h R L g N M a K Q' wr k u6 u12 u13 u14 u15 u16 u17 u18 u19 u20 u21 u56 u57 u58 u59 u60 u61 u62 u63 u64 u65 u66 u67 u68 u69 u70 u71 u72 u73 u74 u75 u76 u77 u78 u79 u80 u81 u82 u83 u84 u85 u86 u87 u88 u89 u90 u91 u92 u93 u94 u95 u96 u97 u98 u99 u100 u101 u102 u103 u104 u105 u106 u107 u108 u109 u110 u111 u112 u113 u114 u115 u116 u117 u118 u119 u120 u121 u122 u123 u124 u125 u126 u127 u128 u129 u130 u131 u132 u133 u134 u135 u136 u137 u138
        exact H1.out
      · obtain rfl : k = M := by omega
        have HW : Hid (∀ W : World, _) := fun W => awake_true W
        clear bS hlt hk
        go_wp2_with fail
        (with_reducible refine (HW.out _).mono ?_); rintro e w5 ⟨rfl, hb1⟩
        go_wp2_with fail
        go_ret
        exact ⟨rfl, hB.trans (hb1.mono hB.size)⟩
  · exact True
  · exact True
end Vfy
end Go.Proofs.Ytaoipbndmfjmhaa
