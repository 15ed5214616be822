/- SignVerifies: a round, up to whether the tree has the key. -/
import Derived.Test.YtaoipbndmfjmhaaVfyA
import Derived.Test.YtaoipbndmfjmhaaCls
namespace Go.Proofs.Ytaoipbndmfjmhaa
open Go.RowKit Go.Joins
namespace Vfy
set_option maxRecDepth 100000 in
set_option maxHeartbeats 8000000 in
noncomputable def round : Cut step.p1 := by
  refine ⟨?p1, ?p2, ?p3, fun H1 H2 H3 => ?main⟩
  case main =>
    unfold step
    intro seed hb _ cap ds w h hh2 em R HRt L hlen hcap hL Q' g hgw N hsh2 hsh hN4 hN0 HLf hhm HNp M hM hM5 hML hMc a hds K wr u6 u12 u13 u14 u15 u16 u17 u18 u19 u20 u21 u56 u57 u58 u59 u60 u61 u62 u63 u64 u65 u66 u67 u68 u69 u70 u71 u72 u73 u74 u75 u76 u77 u78 u79 u80 u81 u82 u83 u84 u85 u86 u87 u88 u89 u90 u91 u92 u93 u94 u95 u96 u97 u98 u99 u100 u101 u102 u103 u104 u105 u106 u107 u108 u109 u110 u111 u112 u113 u114 u115 u116 u117 u118 u119 u120 u121 u122 u123 u124 u125 u126 u127 u128 u129 u130 u131 u132 u133 u134 u135 u136 u137 u138 k hk bS hB hlt
    have hdM : decide ((k : Int) < (M : Int)) = true := decide_eq_true (by omega)
    have hgk : ds[k]? = some (ds[k]'(by omega)) := List.getElem?_eq_getElem _
    obtain ⟨z, hz⟩ : ∃ z, ds[k]'(by omega) = z := ⟨_, rfl⟩
    rw [hz] at hgk
    obtain ⟨b', off', e', hbl, hr⟩ := hds (by intro e; rw [e] at hL; simp at hL; omega)
    cases e'
    have hc := (hB.cell (p := ⟨b', off' + k, none⟩) hbl).trans (hr k z hgk)
    clear hgk hz hr hds hL
    obtain ⟨u, hu⟩ : ∃ u, min k N = u := ⟨_, rfl⟩
    rw [hu] at bS
    have huN : u ≤ N := by rw [← hu]; exact Nat.min_le_right _ _
    obtain ⟨lf, hlf⟩ : ∃ lf, N - u = lf := ⟨_, rfl⟩
    have hwk : IntKind.i64.wrap ((N : Int) - (k : Int)) = (N : Int) - (k : Int) := IntWalk.i64_in _ (by omega)
    have hwk2 : wrap64 ((N : Int) - (k : Int)) = (N : Int) - (k : Int) := IntWalk.wrap64_in _ ⟨by omega, by omega⟩
    have hmx : (lf : Int) = max ((N : Int) - (k : Int)) 0 := by
      rcases Nat.le_total k N with h1 | h1
      · rw [Nat.min_eq_left h1] at hu; omega
      · rw [Nat.min_eq_right h1] at hu; omega
    have hmax := fun W => max_two ((N : Int) - (k : Int)) lf 0 hmx #[3, 3] 3 W
    have hkI : (k : Int) < (M : Int) := by omega
    have HU := Lib.hid (And.intro hu (And.intro hlf hlt))
    clear hu hlt
    go_upto_region 9 with fail
    have G1 : Hid (∀ q : Wd (Gr wr), _) := fun q => HLf.out u lf q.val huN hlf (bS.keep q.ok)
    have hS : Hid (∀ W W' : World, Gr wr W → Below W.heap.size W W' → Gr wr W') := Gr.close
    haveI : Nonempty (Wd (Gr wr)) := ⟨⟨wr, Below.refl _ _⟩⟩
    clear hlf
    refine wp_region_cls (Gr wr) (by kernel_rfl) (by kernel_rfl) (Gr.start wr) ?_
    repeat (go_big_quiet_step (first | (go_at_call 31; with_reducible exact Calls.cls hS.out (G1.out _))))
    refine wpQuiet_nil ?_
    intro _ hw'
    obtain ⟨s0, rfl⟩ := hw'
    replace hB := Below.trans hB (Below.mono s0.ok hB.size)
    replace bS := bS.keep s0.ok
    generalize s0.val = w4 at hB bS ⊢
    clear G1 hS hmax hwk hwk2 hc hbl this hdM
    by_cases hkN : k < N
    · clear H2 H3
      have huk : u = k := by rw [← HU.out.1]; exact Nat.min_eq_left (by omega)
      have hM' := HU.out.2.2
      subst huk
      clear HU HLf hkI hmx huN
      rename_i KA KB KC QL fA fB fC
      clear s0
      trace_state
      revert seed hb cap w h R L g N M b' off' z lf K Q' wr w4 u u6 u12 u13 u14 u15 u16 u17 u18 u19 u20 u21 u56 u57 u58 u59 u60 u61 u62 u63 u64 u65 u66 u67 u68 u69 u70 u71 u72 u73 u74 u75 u76 u77 u78 u79 u80 u81 u82 u83 u84 u85 u86 u87 u88 u89 u90 u91 u92 u93 u94 u95 u96 u97 u98 u99 u100 u101 u102 u103 u104 u105 u106 u107 u108 u109 u110 u111 u112 u113 u114 u115 u116 u117 u118 u119 u120 u121 u122 u123 u124 u125 u126 u127 u128 u129 u130 u131 u132 u133 u134 u135 u136 u137 u138 KA KB KC QL
      exact H1.out
    · clear H1 H3
      have huk : u = N := by rw [← HU.out.1]; exact Nat.min_eq_right (by omega)
      have hM' := HU.out.2.2
      subst huk
      clear HU HLf hkI hmx huN
      rename_i KA KB KC QL fA fB fC
      clear s0
      trace_state
      revert seed hb cap w h R L g u M b' off' z lf K Q' wr w4 k u6 u12 u13 u14 u15 u16 u17 u18 u19 u20 u21 u56 u57 u58 u59 u60 u61 u62 u63 u64 u65 u66 u67 u68 u69 u70 u71 u72 u73 u74 u75 u76 u77 u78 u79 u80 u81 u82 u83 u84 u85 u86 u87 u88 u89 u90 u91 u92 u93 u94 u95 u96 u97 u98 u99 u100 u101 u102 u103 u104 u105 u106 u107 u108 u109 u110 u111 u112 u113 u114 u115 u116 u117 u118 u119 u120 u121 u122 u123 u124 u125 u126 u127 u128 u129 u130 u131 u132 u133 u134 u135 u136 u137 u138 KA KB KC QL
      exact H2.out
  all_goals exact True
end Vfy
end Go.Proofs.Ytaoipbndmfjmhaa
