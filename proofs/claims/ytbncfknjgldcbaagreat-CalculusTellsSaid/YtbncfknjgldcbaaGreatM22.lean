/- Merged texts: TAr. -/
import Derived.Test.YtbncfknjgldcbaaGreatM12
import Derived.Test.YtbncfknjgldcbaaGreatM13
import Derived.Test.YtbncfknjgldcbaaGreatM16
import Derived.Test.YtbncfknjgldcbaaGreatM21
import Derived.Deep.AppendLies
/- The reference's Around. -/
namespace Go.Proofs.YtbncfknjgldcbaaGreat
open Go.RowKit Go.Joins Go.Shelf Go.Sort Num

theorem fit_z {z : Int} (h : -1073741824 ≤ z ∧ z ≤ 1073741824) : Fit (z : Rat) := by
  constructor
  · show z.natAbs ≤ 1073741824; omega
  · exact (by decide : (1 : Nat) ≤ 1073741824)
/-- A whole number as a point. -/
def ptZ (z : Int) : Pt := if h : Fit (z : Rat) then ⟨(z : Rat), h⟩ else default
theorem ptZ_q {z : Int} (h : -1073741824 ≤ z ∧ z ≤ 1073741824) : (ptZ z).q = (z : Rat) := by unfold ptZ; rw [dif_pos (fit_z h)]
theorem ptZ_cells {z : Int} (h : -1073741824 ≤ z ∧ z ≤ 1073741824) : (ptZ z).cells = [.int .i64 z, .int .i64 1] := by unfold ptZ; rw [dif_pos (fit_z h)]; rfl
/-- Points rounded down and up. -/
def arP (ts : List Pt) : List Pt := ts.flatMap fun p => [ptZ (flP p), ptZ (ceP p)]
theorem arP_snoc (ts : List Pt) (p : Pt) : arP (ts ++ [p]) = arP ts ++ [ptZ (flP p), ptZ (ceP p)] := by simp [arP]
theorem arP_len (ts : List Pt) : (arP ts).length = 2 * ts.length := by
  induction ts with
  | nil => rfl
  | cons p ts ih => rw [arP, List.flatMap_cons, List.length_append, ← arP, ih]; simp; omega

set_option maxRecDepth 100000 in
set_option maxHeartbeats 4000000 in
theorem raround_any (A : Option Addr) (cap : Nat) (ts : List Pt) (hn : ∀ p ∈ ts, 0 ≤ p.q) (hl : ts.length ≤ 1048576) (w : World) (hI : isP A ts w) :
    Calls Tryz.prog 78 #[.slice A ts.length cap] w fun e w' => ∃ v, e = .returned v ∧ w'.ownsRow w.heap.size 25 2 v (arP ts).length (ptsOf (arP ts)) ∧ Below w.heap.size w w' := by
  obtain ⟨i0, hi, hz0, hz1, hz2⟩ := info_parts infoR
  have HF : Hid (∀ (p : Pt) (W : World), Calls Tryz.prog 114 #[.agg #[.int .i64 p.q.num, .int .i64 p.q.den]] W fun e w' => e = .returned (.int .i64 (flP p)) ∧ Below W.heap.size W w') := fun p W => by
    have h := fit_bd p.h
    have := Ref.floor_any p.q.num p.q.den W (by omega) (by omega) (by omega) (by omega)
    unfold floorN at this
    rwa [fit_vld p.h, if_pos rfl] at this
  have HC : Hid (∀ (p : Pt) (W : World), Calls Tryz.prog 115 #[.agg #[.int .i64 p.q.num, .int .i64 p.q.den]] W fun e w' => e = .returned (.int .i64 (ceP p)) ∧ Below W.heap.size W w') := fun p W => by
    have h := fit_bd p.h
    have := Ref.ceil_any p.q.num p.q.den W (by omega) (by omega) (by omega) (by omega)
    unfold ceilN at this
    rwa [fit_vld p.h, if_pos rfl] at this
  have hn' := Lib.hid hn
  have hI' := Lib.hid hI
  clear hn hI
  go_enter Tryz.func78, Tryz.ntmps78
  go_wp2_with fail
  go_loopw [3, 4] (fun v i wr => ∃ (k nl c : Nat) (G : Option Addr), k ≤ ts.length ∧ nl = 2 * k ∧ i = .int .i64 ↑k ∧ v = .slice G nl c ∧ Hid (wr.ownsRow w.heap.size 25 2 v nl (ptsOf (arP (ts.take k)))) ∧ Hid (Below w.heap.size w wr))
    (fun _ i _ => ts.length - (intOf i).toNat)
  case atStart => exact ⟨0, 0, 0, none, Nat.zero_le _, rfl, rfl, rfl, World.ownsRow_nil _ _ _ _, Below.refl _ _⟩
  case round =>
    obtain ⟨k, nl, c, G, hk, hnl, rfl, rfl, hown, hB⟩ := hrel
    have hnlb : nl ≤ 2097152 := by omega
    replace hnl := Lib.hid hnl
    by_cases hlt : k < ts.length
    · have hd : decide ((k : Int) < ts.length) = true := decide_eq_true (by omega)
      have hp : ts[k]? = some (ts[k]'hlt) := List.getElem?_eq_getElem hlt
      obtain ⟨p, hpe⟩ : ∃ p, ts[k]'hlt = p := ⟨_, rfl⟩
      rw [hpe] at hp
      have hq := hn'.out p (List.mem_of_getElem? hp)
      obtain ⟨⟨f1, f2⟩, f3, f4⟩ := tick_bd hq
      obtain ⟨g, rfl, hg, hr⟩ := (cl_isP A ts w _ hI'.out hB.out) (by intro e; rw [e] at hlt; simp at hlt)
      obtain ⟨d0, d1⟩ := hr k p hp
      simp only [Nat.zero_add] at d0 d1
      have hfin : Hid (ptsOf (arP (ts.take (k + 1))) = ptsOf (arP (ts.take k)) ++ [.int .i64 (flP p), .int .i64 1, .int .i64 (ceP p), .int .i64 1]) := by
        unfold Hid
        rw [take_succ' hp, arP_snoc]
        show ptsOf (arP (ts.take k) ++ [ptZ (flP p), ptZ (ceP p)]) = _
        unfold ptsOf
        rw [List.flatMap_append]
        simp only [List.flatMap_cons, List.flatMap_nil, List.append_nil]
        rw [ptZ_cells ⟨by omega, by omega⟩, ptZ_cells ⟨by omega, by omega⟩]
        rfl
      have HFp := Lib.hid (HF.out p)
      have HCp := Lib.hid (HC.out p)
      obtain ⟨xsl, hxs⟩ : ∃ x, ptsOf (arP (ts.take k)) = x := ⟨_, rfl⟩
      rw [hxs] at hown hfin
      generalize p.q.num = pn at *
      generalize (p.q.den : Int) = pd at *
      obtain ⟨FL, hFL⟩ : ∃ z, flP p = z := ⟨_, rfl⟩
      obtain ⟨CE, hCE⟩ : ∃ z, ceP p = z := ⟨_, rfl⟩
      rw [hFL] at HFp f1 f2 hfin
      rw [hCE] at HCp f3 f4 hfin
      have hone : ∀ u ∈ [Value.int .i64 FL, .int .i64 1, .int .i64 CE, .int .i64 1], u.oneCell' = true := by
        intro u hu
        simp only [List.mem_cons, List.not_mem_nil, or_false] at hu
        rcases hu with rfl | rfl | rfl | rfl <;> rfl
      have hone := Lib.hid hone
      have hown0 := hown.out
      have hB0 := hB.out
      have hsz0 := hB.out.size
      clear hp hpe hq hr hxs hFL hCE hown hB HF HC
      go_wp2_with fail
      refine wp_region_inv (Inv := fun Lb a W => ∃ (b0 b1 b2 b3 b4 b5 b6 b7 b8 b9 b10 b11 b12 b13 b14 b15 : Bool) (B : Nat) (G' : Nat) (c' : Nat), Lb = #[b0, b1, b2, b3, b4, b5, b6, b7, b8, b9, b10, b11, b12, b13, b14, b15] ∧ a = { tmps := #[Value.slice (some ⟨g, 0, none⟩) ts.length cap, undef, Value.slice none 0 0, (bif b15 then .slice (some ⟨G', 0, none⟩) (nl + 2) c' else Value.slice G nl c), Value.int IntKind.i64 ↑k, Value.int IntKind.i64 ↑k, Value.slice (some ⟨g, 0, none⟩) ts.length cap, Value.int IntKind.i64 ↑ts.length, Value.bool true, u9, u10, (bif b0 then .slice G nl c else u11), (bif b1 then .slice (some ⟨g, 0, none⟩) ts.length cap else u12), (bif b2 then .int .i64 (k : Nat) else u13), (bif b3 then .pointer (some ⟨g, k * 2, none⟩) else u14), (bif b4 then .agg #[.int .i64 pn, .int .i64 pd] else u15), (bif b5 then .int .i64 FL else u16), (bif b6 then .agg #[.int .i64 FL, .int .i64 1] else u17), (bif b7 then .slice (some ⟨g, 0, none⟩) ts.length cap else u18), (bif b8 then .int .i64 (k : Nat) else u19), (bif b9 then .pointer (some ⟨g, k * 2, none⟩) else u20), (bif b10 then .agg #[.int .i64 pn, .int .i64 pd] else u21), (bif b11 then .int .i64 CE else u22), (bif b12 then .agg #[.int .i64 CE, .int .i64 1] else u23), (bif b13 then .slice (some ⟨B, 0, none⟩) 2 2 else u24), (bif b14 then .slice (some ⟨G', 0, none⟩) (nl + 2) c' else u25), undef], defers := [] } ∧ (b3 = true → b1 = true ∧ b2 = true) ∧ (b4 = true → b3 = true) ∧ (b5 = true → b4 = true) ∧ (b6 = true → b5 = true) ∧ (b9 = true → b7 = true ∧ b8 = true) ∧ (b10 = true → b9 = true) ∧ (b11 = true → b10 = true ∧ b5 = true) ∧ (b12 = true → b11 = true) ∧ (b13 = true → b6 = true ∧ b12 = true) ∧ (b14 = true → b0 = true ∧ b13 = true ∧ b11 = true) ∧ (b15 = true → b14 = true) ∧ (b14 = false → (W.ownsRow w.heap.size 25 2 (.slice G nl c) nl xsl ∧ Below wr.heap.size wr W) ∧ (b13 = true → BoxN W B 25 #[.int .i64 FL, .int .i64 1, .int .i64 CE, .int .i64 1])) ∧ (b14 = true → W.ownsRow w.heap.size 25 2 (.slice (some ⟨G', 0, none⟩) (nl + 2) c') (nl + 2) (xsl ++ [.int .i64 FL, .int .i64 1, .int .i64 CE, .int .i64 1]) ∧ Below w.heap.size w W)) (by kernel_rfl) (down_of (by decide +kernel)) ?start ?size ?done ?step
      case start => exact ⟨false, false, false, false, false, false, false, false, false, false, false, false, false, false, false, false, 0, 0, 0, rfl, rfl, by simp, by simp, by simp, by simp, by simp, by simp, by simp, by simp, by simp, by simp, by simp, fun _ => ⟨⟨hown0.drew, (Below.refl _ _).drew⟩, by simp⟩, by simp⟩
      case size =>
        rintro Lb aR W ⟨b0, b1, b2, b3, b4, b5, b6, b7, b8, b9, b10, b11, b12, b13, b14, b15, B, G', c', rfl, -⟩
        rfl
      case step =>
        rintro Lb aR W i o ⟨b0, b1, b2, b3, b4, b5, b6, b7, b8, b9, b10, b11, b12, b13, b14, b15, B, G', c', rfl, rfl, p3, p4, p5, p6, p9, p10, p11, p12, p13, p14, p15, f0, f1⟩ ho hl' hdep
        have hi' : i < 16 := (Array.getElem?_eq_some_iff.1 ho).1
        have hi2 : i = 0 ∨ i = 1 ∨ i = 2 ∨ i = 3 ∨ i = 4 ∨ i = 5 ∨ i = 6 ∨ i = 7 ∨ i = 8 ∨ i = 9 ∨ i = 10 ∨ i = 11 ∨ i = 12 ∨ i = 13 ∨ i = 14 ∨ i = 15 := by omega
        clear hi'
        replace p3 := Lib.hid p3
        replace p4 := Lib.hid p4
        replace p5 := Lib.hid p5
        replace p6 := Lib.hid p6
        replace p9 := Lib.hid p9
        replace p10 := Lib.hid p10
        replace p11 := Lib.hid p11
        replace p12 := Lib.hid p12
        replace p13 := Lib.hid p13
        replace p14 := Lib.hid p14
        replace p15 := Lib.hid p15
        replace f0 := Lib.hid f0
        replace f1 := Lib.hid f1
        rcases hi2 with rfl | rfl | rfl | rfl | rfl | rfl | rfl | rfl | rfl | rfl | rfl | rfl | rfl | rfl | rfl | rfl
        · cases ho
          obtain rfl : b0 = false := hl'
          clear hdep
          obtain rfl : b14 = false := by cases b14 with | false => rfl | true => exact absurd (p14.out rfl).1 (by simp)
          obtain rfl : b15 = false := by cases b15 with | false => rfl | true => exact absurd (p15.out rfl) (by simp)
          refine wpOp_step rfl (fun K hK => ?_)
          go_simp
          refine hK _ _ ?_; clear hK K
          exact ⟨true, b1, b2, b3, b4, b5, b6, b7, b8, b9, b10, b11, b12, b13, false, false, B, G', c', rfl, rfl, p3.out, p4.out, p5.out, p6.out, p9.out, p10.out, p11.out, p12.out, p13.out, by simp, by simp, f0.out, f1.out⟩
        · cases ho
          obtain rfl : b1 = false := hl'
          clear hdep
          obtain rfl : b3 = false := by cases b3 with | false => rfl | true => exact absurd (p3.out rfl).1 (by simp)
          obtain rfl : b4 = false := by cases b4 with | false => rfl | true => exact absurd (p4.out rfl) (by simp)
          obtain rfl : b5 = false := by cases b5 with | false => rfl | true => exact absurd (p5.out rfl) (by simp)
          obtain rfl : b6 = false := by cases b6 with | false => rfl | true => exact absurd (p6.out rfl) (by simp)
          obtain rfl : b11 = false := by cases b11 with | false => rfl | true => exact absurd (p11.out rfl).2 (by simp)
          obtain rfl : b12 = false := by cases b12 with | false => rfl | true => exact absurd (p12.out rfl) (by simp)
          obtain rfl : b13 = false := by cases b13 with | false => rfl | true => exact absurd (p13.out rfl).1 (by simp)
          obtain rfl : b14 = false := by cases b14 with | false => rfl | true => exact absurd (p14.out rfl).2.1 (by simp)
          obtain rfl : b15 = false := by cases b15 with | false => rfl | true => exact absurd (p15.out rfl) (by simp)
          refine wpOp_step rfl (fun K hK => ?_)
          go_simp
          refine hK _ _ ?_; clear hK K
          exact ⟨b0, true, b2, false, false, false, false, b7, b8, b9, b10, false, false, false, false, false, B, G', c', rfl, rfl, by simp, by simp, by simp, by simp, p9.out, p10.out, by simp, by simp, by simp, by simp, by simp, f0.out, f1.out⟩
        · cases ho
          obtain rfl : b2 = false := hl'
          clear hdep
          obtain rfl : b3 = false := by cases b3 with | false => rfl | true => exact absurd (p3.out rfl).2 (by simp)
          obtain rfl : b4 = false := by cases b4 with | false => rfl | true => exact absurd (p4.out rfl) (by simp)
          obtain rfl : b5 = false := by cases b5 with | false => rfl | true => exact absurd (p5.out rfl) (by simp)
          obtain rfl : b6 = false := by cases b6 with | false => rfl | true => exact absurd (p6.out rfl) (by simp)
          obtain rfl : b11 = false := by cases b11 with | false => rfl | true => exact absurd (p11.out rfl).2 (by simp)
          obtain rfl : b12 = false := by cases b12 with | false => rfl | true => exact absurd (p12.out rfl) (by simp)
          obtain rfl : b13 = false := by cases b13 with | false => rfl | true => exact absurd (p13.out rfl).1 (by simp)
          obtain rfl : b14 = false := by cases b14 with | false => rfl | true => exact absurd (p14.out rfl).2.1 (by simp)
          obtain rfl : b15 = false := by cases b15 with | false => rfl | true => exact absurd (p15.out rfl) (by simp)
          refine wpOp_step rfl (fun K hK => ?_)
          go_simp
          refine hK _ _ ?_; clear hK K
          exact ⟨b0, b1, true, false, false, false, false, b7, b8, b9, b10, false, false, false, false, false, B, G', c', rfl, rfl, by simp, by simp, by simp, by simp, p9.out, p10.out, by simp, by simp, by simp, by simp, by simp, f0.out, f1.out⟩
        · cases ho
          obtain rfl : b3 = false := hl'
          obtain rfl : b1 = true := hdep ⟨1, .data⟩ (by simp) rfl
          obtain rfl : b2 = true := hdep ⟨2, .data⟩ (by simp) rfl
          clear hdep
          obtain rfl : b4 = false := by cases b4 with | false => rfl | true => exact absurd (p4.out rfl) (by simp)
          obtain rfl : b5 = false := by cases b5 with | false => rfl | true => exact absurd (p5.out rfl) (by simp)
          obtain rfl : b6 = false := by cases b6 with | false => rfl | true => exact absurd (p6.out rfl) (by simp)
          obtain rfl : b11 = false := by cases b11 with | false => rfl | true => exact absurd (p11.out rfl).2 (by simp)
          obtain rfl : b12 = false := by cases b12 with | false => rfl | true => exact absurd (p12.out rfl) (by simp)
          obtain rfl : b13 = false := by cases b13 with | false => rfl | true => exact absurd (p13.out rfl).1 (by simp)
          obtain rfl : b14 = false := by cases b14 with | false => rfl | true => exact absurd (p14.out rfl).2.1 (by simp)
          obtain rfl : b15 = false := by cases b15 with | false => rfl | true => exact absurd (p15.out rfl) (by simp)
          refine wpOp_step rfl (fun K hK => ?_)
          simp only [cond_true]
          go_simp
          refine hK _ _ ?_; clear hK K
          exact ⟨b0, true, true, true, false, false, false, b7, b8, b9, b10, false, false, false, false, false, B, G', c', rfl, rfl, by simp, by simp, by simp, by simp, p9.out, p10.out, by simp, by simp, by simp, by simp, by simp, f0.out, f1.out⟩
        · cases ho
          obtain rfl : b4 = false := hl'
          obtain rfl : b3 = true := hdep ⟨3, .data⟩ (by simp) rfl
          clear hdep
          obtain rfl : b5 = false := by cases b5 with | false => rfl | true => exact absurd (p5.out rfl) (by simp)
          obtain rfl : b6 = false := by cases b6 with | false => rfl | true => exact absurd (p6.out rfl) (by simp)
          obtain rfl : b11 = false := by cases b11 with | false => rfl | true => exact absurd (p11.out rfl).2 (by simp)
          obtain rfl : b12 = false := by cases b12 with | false => rfl | true => exact absurd (p12.out rfl) (by simp)
          obtain rfl : b13 = false := by cases b13 with | false => rfl | true => exact absurd (p13.out rfl).1 (by simp)
          obtain rfl : b14 = false := by cases b14 with | false => rfl | true => exact absurd (p14.out rfl).2.1 (by simp)
          obtain rfl : b15 = false := by cases b15 with | false => rfl | true => exact absurd (p15.out rfl) (by simp)
          have e0 := ((f0.out rfl).1.2.cell (p := ⟨g, k * 2, none⟩) hg).trans d0
          have e1 := ((f0.out rfl).1.2.cell (p := ⟨g, k * 2 + 1, none⟩) hg).trans d1
          refine wpOp_step rfl (fun K hK => ?_)
          simp only [cond_true]
          go_simp
          refine hK _ _ ?_; clear hK K
          exact ⟨b0, b1, b2, true, true, false, false, b7, b8, b9, b10, false, false, false, false, false, B, G', c', rfl, rfl, p3.out, by simp, by simp, by simp, p9.out, p10.out, by simp, by simp, by simp, by simp, by simp, f0.out, f1.out⟩
        · cases ho
          obtain rfl : b5 = false := hl'
          obtain rfl : b4 = true := hdep ⟨4, .data⟩ (by simp) rfl
          clear hdep
          obtain rfl : b6 = false := by cases b6 with | false => rfl | true => exact absurd (p6.out rfl) (by simp)
          obtain rfl : b11 = false := by cases b11 with | false => rfl | true => exact absurd (p11.out rfl).2 (by simp)
          obtain rfl : b12 = false := by cases b12 with | false => rfl | true => exact absurd (p12.out rfl) (by simp)
          obtain rfl : b13 = false := by cases b13 with | false => rfl | true => exact absurd (p13.out rfl).1 (by simp)
          obtain rfl : b14 = false := by cases b14 with | false => rfl | true => exact absurd (p14.out rfl).2.1 (by simp)
          obtain rfl : b15 = false := by cases b15 with | false => rfl | true => exact absurd (p15.out rfl) (by simp)
          obtain ⟨⟨hown, hBw⟩, -⟩ := f0.out rfl
          have Hown := Lib.hid hown
          have HBw := Lib.hid hBw
          clear hown hBw
          refine wpOp_step rfl (fun K hK => ?_)
          simp only [cond_true]
          go_simp
          (with_reducible refine (HFp.out _).mono ?_); rintro e w4 ⟨rfl, hb⟩
          refine hK _ _ ?_; clear hK K
          exact ⟨b0, b1, b2, b3, true, true, false, b7, b8, b9, b10, false, false, false, false, false, B, G', c', rfl, rfl, p3.out, p4.out, by simp, by simp, p9.out, p10.out, by simp, by simp, by simp, by simp, by simp, fun _ => ⟨⟨own_below Hown.out hb, HBw.out.trans (hb.mono HBw.out.size)⟩, by simp⟩, by simp⟩
        · cases ho
          obtain rfl : b6 = false := hl'
          obtain rfl : b5 = true := hdep ⟨5, .data⟩ (by simp) rfl
          clear hdep
          obtain rfl : b13 = false := by cases b13 with | false => rfl | true => exact absurd (p13.out rfl).1 (by simp)
          obtain rfl : b14 = false := by cases b14 with | false => rfl | true => exact absurd (p14.out rfl).2.1 (by simp)
          obtain rfl : b15 = false := by cases b15 with | false => rfl | true => exact absurd (p15.out rfl) (by simp)
          refine wpOp_step rfl (fun K hK => ?_)
          simp only [cond_true]
          go_simp
          refine hK _ _ ?_; clear hK K
          exact ⟨b0, b1, b2, b3, b4, true, true, b7, b8, b9, b10, b11, b12, false, false, false, B, G', c', rfl, rfl, p3.out, p4.out, p5.out, by simp, p9.out, p10.out, fun e => by have := p11.out e; simp_all, p12.out, by simp, by simp, by simp, f0.out, f1.out⟩
        · cases ho
          obtain rfl : b7 = false := hl'
          clear hdep
          obtain rfl : b9 = false := by cases b9 with | false => rfl | true => exact absurd (p9.out rfl).1 (by simp)
          obtain rfl : b10 = false := by cases b10 with | false => rfl | true => exact absurd (p10.out rfl) (by simp)
          obtain rfl : b11 = false := by cases b11 with | false => rfl | true => exact absurd (p11.out rfl).1 (by simp)
          obtain rfl : b12 = false := by cases b12 with | false => rfl | true => exact absurd (p12.out rfl) (by simp)
          obtain rfl : b13 = false := by cases b13 with | false => rfl | true => exact absurd (p13.out rfl).2 (by simp)
          obtain rfl : b14 = false := by cases b14 with | false => rfl | true => exact absurd (p14.out rfl).2.1 (by simp)
          obtain rfl : b15 = false := by cases b15 with | false => rfl | true => exact absurd (p15.out rfl) (by simp)
          refine wpOp_step rfl (fun K hK => ?_)
          go_simp
          refine hK _ _ ?_; clear hK K
          exact ⟨b0, b1, b2, b3, b4, b5, b6, true, b8, false, false, false, false, false, false, false, B, G', c', rfl, rfl, p3.out, p4.out, p5.out, p6.out, by simp, by simp, by simp, by simp, by simp, by simp, by simp, f0.out, f1.out⟩
        · cases ho
          obtain rfl : b8 = false := hl'
          clear hdep
          obtain rfl : b9 = false := by cases b9 with | false => rfl | true => exact absurd (p9.out rfl).2 (by simp)
          obtain rfl : b10 = false := by cases b10 with | false => rfl | true => exact absurd (p10.out rfl) (by simp)
          obtain rfl : b11 = false := by cases b11 with | false => rfl | true => exact absurd (p11.out rfl).1 (by simp)
          obtain rfl : b12 = false := by cases b12 with | false => rfl | true => exact absurd (p12.out rfl) (by simp)
          obtain rfl : b13 = false := by cases b13 with | false => rfl | true => exact absurd (p13.out rfl).2 (by simp)
          obtain rfl : b14 = false := by cases b14 with | false => rfl | true => exact absurd (p14.out rfl).2.1 (by simp)
          obtain rfl : b15 = false := by cases b15 with | false => rfl | true => exact absurd (p15.out rfl) (by simp)
          refine wpOp_step rfl (fun K hK => ?_)
          go_simp
          refine hK _ _ ?_; clear hK K
          exact ⟨b0, b1, b2, b3, b4, b5, b6, b7, true, false, false, false, false, false, false, false, B, G', c', rfl, rfl, p3.out, p4.out, p5.out, p6.out, by simp, by simp, by simp, by simp, by simp, by simp, by simp, f0.out, f1.out⟩
        · cases ho
          obtain rfl : b9 = false := hl'
          obtain rfl : b7 = true := hdep ⟨7, .data⟩ (by simp) rfl
          obtain rfl : b8 = true := hdep ⟨8, .data⟩ (by simp) rfl
          clear hdep
          obtain rfl : b10 = false := by cases b10 with | false => rfl | true => exact absurd (p10.out rfl) (by simp)
          obtain rfl : b11 = false := by cases b11 with | false => rfl | true => exact absurd (p11.out rfl).1 (by simp)
          obtain rfl : b12 = false := by cases b12 with | false => rfl | true => exact absurd (p12.out rfl) (by simp)
          obtain rfl : b13 = false := by cases b13 with | false => rfl | true => exact absurd (p13.out rfl).2 (by simp)
          obtain rfl : b14 = false := by cases b14 with | false => rfl | true => exact absurd (p14.out rfl).2.1 (by simp)
          obtain rfl : b15 = false := by cases b15 with | false => rfl | true => exact absurd (p15.out rfl) (by simp)
          refine wpOp_step rfl (fun K hK => ?_)
          simp only [cond_true]
          go_simp
          refine hK _ _ ?_; clear hK K
          exact ⟨b0, b1, b2, b3, b4, b5, b6, true, true, true, false, false, false, false, false, false, B, G', c', rfl, rfl, p3.out, p4.out, p5.out, p6.out, by simp, by simp, by simp, by simp, by simp, by simp, by simp, f0.out, f1.out⟩
        · cases ho
          obtain rfl : b10 = false := hl'
          obtain rfl : b9 = true := hdep ⟨9, .data⟩ (by simp) rfl
          clear hdep
          obtain rfl : b11 = false := by cases b11 with | false => rfl | true => exact absurd (p11.out rfl).1 (by simp)
          obtain rfl : b12 = false := by cases b12 with | false => rfl | true => exact absurd (p12.out rfl) (by simp)
          obtain rfl : b13 = false := by cases b13 with | false => rfl | true => exact absurd (p13.out rfl).2 (by simp)
          obtain rfl : b14 = false := by cases b14 with | false => rfl | true => exact absurd (p14.out rfl).2.1 (by simp)
          obtain rfl : b15 = false := by cases b15 with | false => rfl | true => exact absurd (p15.out rfl) (by simp)
          have e0 := ((f0.out rfl).1.2.cell (p := ⟨g, k * 2, none⟩) hg).trans d0
          have e1 := ((f0.out rfl).1.2.cell (p := ⟨g, k * 2 + 1, none⟩) hg).trans d1
          refine wpOp_step rfl (fun K hK => ?_)
          simp only [cond_true]
          go_simp
          refine hK _ _ ?_; clear hK K
          exact ⟨b0, b1, b2, b3, b4, b5, b6, b7, b8, true, true, false, false, false, false, false, B, G', c', rfl, rfl, p3.out, p4.out, p5.out, p6.out, p9.out, by simp, by simp, by simp, by simp, by simp, by simp, f0.out, f1.out⟩
        · cases ho
          obtain rfl : b11 = false := hl'
          obtain rfl : b10 = true := hdep ⟨10, .data⟩ (by simp) rfl
          obtain rfl : b5 = true := hdep ⟨5, .chain⟩ (by simp) rfl
          clear hdep
          obtain rfl : b12 = false := by cases b12 with | false => rfl | true => exact absurd (p12.out rfl) (by simp)
          obtain rfl : b13 = false := by cases b13 with | false => rfl | true => exact absurd (p13.out rfl).2 (by simp)
          obtain rfl : b14 = false := by cases b14 with | false => rfl | true => exact absurd (p14.out rfl).2.1 (by simp)
          obtain rfl : b15 = false := by cases b15 with | false => rfl | true => exact absurd (p15.out rfl) (by simp)
          obtain ⟨⟨hown, hBw⟩, -⟩ := f0.out rfl
          have Hown := Lib.hid hown
          have HBw := Lib.hid hBw
          clear hown hBw
          refine wpOp_step rfl (fun K hK => ?_)
          simp only [cond_true]
          go_simp
          (with_reducible refine (HCp.out _).mono ?_); rintro e w4 ⟨rfl, hb⟩
          refine hK _ _ ?_; clear hK K
          exact ⟨b0, b1, b2, b3, b4, true, b6, b7, b8, b9, true, true, false, false, false, false, B, G', c', rfl, rfl, p3.out, p4.out, p5.out, fun e => by have := p6.out e; simp_all, p9.out, p10.out, by simp, by simp, by simp, by simp, by simp, fun _ => ⟨⟨own_below Hown.out hb, HBw.out.trans (hb.mono HBw.out.size)⟩, by simp⟩, by simp⟩
        · cases ho
          obtain rfl : b12 = false := hl'
          obtain rfl : b11 = true := hdep ⟨11, .data⟩ (by simp) rfl
          clear hdep
          obtain rfl : b13 = false := by cases b13 with | false => rfl | true => exact absurd (p13.out rfl).2 (by simp)
          obtain rfl : b14 = false := by cases b14 with | false => rfl | true => exact absurd (p14.out rfl).2.1 (by simp)
          obtain rfl : b15 = false := by cases b15 with | false => rfl | true => exact absurd (p15.out rfl) (by simp)
          refine wpOp_step rfl (fun K hK => ?_)
          simp only [cond_true]
          go_simp
          refine hK _ _ ?_; clear hK K
          exact ⟨b0, b1, b2, b3, b4, b5, b6, b7, b8, b9, b10, true, true, false, false, false, B, G', c', rfl, rfl, p3.out, p4.out, p5.out, p6.out, p9.out, p10.out, p11.out, by simp, by simp, by simp, by simp, f0.out, f1.out⟩
        · cases ho
          obtain rfl : b13 = false := hl'
          obtain rfl : b6 = true := hdep ⟨6, .data⟩ (by simp) rfl
          obtain rfl : b12 = true := hdep ⟨12, .data⟩ (by simp) rfl
          clear hdep
          obtain rfl : b14 = false := by cases b14 with | false => rfl | true => exact absurd (p14.out rfl).2.1 (by simp)
          obtain rfl : b15 = false := by cases b15 with | false => rfl | true => exact absurd (p15.out rfl) (by simp)
          obtain ⟨⟨hown, hBw⟩, -⟩ := f0.out rfl
          have hNew := BoxN.new W 25 #[.int .i64 FL, .int .i64 1, .int .i64 CE, .int .i64 1]
          have Hown := Lib.hid hown
          have HBw := Lib.hid hBw
          clear hown hBw
          refine wpOp_step rfl (fun K hK => ?_)
          simp only [cond_true]
          go_simp
          refine hK _ _ ?_; clear hK K
          exact ⟨b0, b1, b2, b3, b4, b5, true, b7, b8, b9, b10, b11, true, true, false, false, W.heap.size, G', c', rfl, rfl, p3.out, p4.out, p5.out, p6.out, p9.out, p10.out, p11.out, p12.out, by simp, by simp, by simp, fun _ => ⟨⟨Hown.out.alloc _, HBw.out.alloc HBw.out.size _⟩, fun _ => hNew⟩, by simp⟩
        · cases ho
          obtain rfl : b14 = false := hl'
          obtain rfl : b0 = true := hdep ⟨0, .data⟩ (by simp) rfl
          obtain rfl : b13 = true := hdep ⟨13, .data⟩ (by simp) rfl
          obtain rfl : b11 = true := hdep ⟨11, .chain⟩ (by simp) rfl
          clear hdep
          obtain rfl : b15 = false := by cases b15 with | false => rfl | true => exact absurd (p15.out rfl) (by simp)
          obtain ⟨⟨hown, hBw⟩, hbN⟩ := f0.out rfl
          have hNews := World.news_of_block (cs := #[.int .i64 FL, .int .i64 1, .int .i64 CE, .int .i64 1]) (t := 25) (fr := (0, 0)) (hbN rfl)
          have hSl : w.heap.size ≤ W.heap.size := Nat.le_trans hsz0 hBw.size
          have hBs : Below w.heap.size w W := hB0.trans (hBw.mono hsz0)
          refine wpOp_step rfl (fun K hK => ?_)
          refine step_append_lies _ rfl (.tmp 11) (.tmp 24) 44 rfl w.heap.size 25 i0 _ 2 16 Tryz.underlying44 hi hz0 hz1 hz2 rfl (by decide) (.slice G nl c) nl xsl rfl hown ⟨B, 0, none⟩ 2 2 [.int .i64 FL, .int .i64 1, .int .i64 CE, .int .i64 1] rfl rfl hNews hone.out (by decide) (by unfold maxLen; omega) (by omega) hSl _ rfl ?_
          intro G5 c5 w5 hn5 hg5 _ _
          refine hK _ _ ?_; clear hK K
          exact ⟨true, b1, b2, b3, b4, b5, b6, b7, b8, b9, b10, true, b12, true, true, false, B, G5, c5, rfl, rfl, p3.out, p4.out, p5.out, p6.out, p9.out, p10.out, p11.out, fun e => by have := p12.out e; simp_all, p13.out, by simp, by simp, by simp, fun _ => ⟨hn5, hBs.grown hg5 hBs.size (fun j e => own_block_le hown e)⟩⟩
        · cases ho
          obtain rfl : b15 = false := hl'
          obtain rfl : b14 = true := hdep ⟨14, .data⟩ (by simp) rfl
          clear hdep
          refine wpOp_step rfl (fun K hK => ?_)
          simp only [cond_true]
          go_simp
          refine hK _ _ ?_; clear hK K
          exact ⟨b0, b1, b2, b3, b4, b5, b6, b7, b8, b9, b10, b11, b12, b13, true, true, B, G', c', rfl, rfl, p3.out, p4.out, p5.out, p6.out, p9.out, p10.out, p11.out, p12.out, p13.out, p14.out, by simp, f0.out, f1.out⟩
      case done =>
        rintro Lb aR W ⟨j0, j1, j2, j3, j4, j5, j6, j7, j8, j9, j10, j11, j12, j13, j14, j15, B, G', c', rfl, rfl, -, -, -, -, -, -, -, -, -, -, -, f0, f1⟩ hall
        obtain rfl : j0 = true := hall 0 (by decide)
        obtain rfl : j1 = true := hall 1 (by decide)
        obtain rfl : j2 = true := hall 2 (by decide)
        obtain rfl : j3 = true := hall 3 (by decide)
        obtain rfl : j4 = true := hall 4 (by decide)
        obtain rfl : j5 = true := hall 5 (by decide)
        obtain rfl : j6 = true := hall 6 (by decide)
        obtain rfl : j7 = true := hall 7 (by decide)
        obtain rfl : j8 = true := hall 8 (by decide)
        obtain rfl : j9 = true := hall 9 (by decide)
        obtain rfl : j10 = true := hall 10 (by decide)
        obtain rfl : j11 = true := hall 11 (by decide)
        obtain rfl : j12 = true := hall 12 (by decide)
        obtain rfl : j13 = true := hall 13 (by decide)
        obtain rfl : j14 = true := hall 14 (by decide)
        obtain rfl : j15 = true := hall 15 (by decide)
        clear hall
        obtain ⟨hown2, hB2⟩ := f1 rfl
        have Hown2 := Lib.hid hown2
        have HB2 := Lib.hid hB2
        clear f0 f1 hown2 hB2 hown0 hB0 hsz0
        simp only [cond_true]
        go_wp2_with fail
        go_roundw
        case rel => exact ⟨k + 1, nl + 2, c', some ⟨G', 0, none⟩, by omega, by have := hnl.out; omega, by go_num, rfl, by rw [hfin.out]; exact Hown2.out, HB2.out⟩
        case measure => simp [intOf]; omega
    · obtain rfl : k = ts.length := by omega
      have hown2 := hown.out
      rw [List.take_length] at hown2
      have hl2 : nl = (arP ts).length := by rw [arP_len]; exact hnl.out
      rw [hl2] at hown2
      have Hown2 := Lib.hid hown2
      clear hnl
      subst hl2
      clear hown2 hown
      go_wp2_with fail
      go_ret
      exact ⟨_, rfl, Hown2.out, hB.out⟩
end Go.Proofs.YtbncfknjgldcbaaGreat
