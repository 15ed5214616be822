/- The contract of theirs. -/
import Derived.Test.YtbpncbomcdpogaaRefL
import Derived.Test.YtbpncbomcdpogaaAlike
import Derived.Test.YtbpncbomcdpogaaInvP
namespace Go.Proofs.Ytbpncbomcdpogaa
open Go.RowKit Go.Joins

theorem isT_grown {W w5 : World} {b off g : Nat} {L : List RTk} {ob : Option Nat} (h : isT (some ⟨b, off, none⟩) L W) (hg : W.grownBy w5 ob) (ho : ∀ j, ob = some j → g ≤ j) (hb : b < g) : isT (some ⟨b, off, none⟩) L w5 :=
  h.same fun a ha hl => by
    cases ha
    exact hg.block b hl (fun e => by have := ho b e.symm; omega)

set_option maxRecDepth 100000 in
set_option maxHeartbeats 8000000 in
theorem theirs_any (A : Option Addr) (cA : Nat) (L : List RTk) (hL : L.length ≤ 1000000) (hk8 : ∀ x ∈ L, x.k ≤ 255) (w : World) (hrow : isT A L w) :
    Calls Try.prog 15 #[.slice A L.length cA] w fun e w' => ∃ G c, e = .returned (.slice G L.length c) ∧ w'.ownsRow w.heap.size 50 3 (.slice G L.length c) L.length (cellsU L) ∧ Below w.heap.size w w' := by
  obtain ⟨i0, hi, hz0, hz1, hz2⟩ := info_parts infoU
  have hzr := zero_rt
  go_enter Try.func15, Try.ntmps15
  go_wp2_with fail
  have hB0 := Below.refl w.heap.size w
  obtain ⟨g, hg⟩ : ∃ g, w.heap.size = g := ⟨_, rfl⟩
  rw [hg] at hB0
  have HG := Lib.hid hg
  have hAb : L ≠ [] → ∀ a, A = some a → a.block < g := fun h a ha => by
    obtain ⟨b, off, e, h1, _⟩ := hrow h
    rw [ha] at e
    cases e; rw [← hg]; exact h1
  clear hg
  go_loopw [3, 4] (fun v i wr => ∃ k : Nat, k ≤ L.length ∧ i = .int .i64 k ∧ isT A L wr ∧ wr.ownsRow g 50 3 v k (cellsU (L.take k)) ∧ Below g w wr)
    (fun _ i _ => L.length - (intOf i).toNat)
  case atStart => exact ⟨0, Nat.zero_le _, rfl, hrow, ⟨rfl, .inl ⟨rfl, rfl⟩⟩, hB0⟩
  case round =>
    clear hB0 hrow
    obtain ⟨k, hk, rfl, hrow, hown, hB⟩ := hrel
    by_cases hlt : k < L.length
    · have hgk : L[k]? = some L[k] := List.getElem?_eq_getElem hlt
      obtain ⟨x, hx⟩ : ∃ x, L[k] = x := ⟨_, rfl⟩
      rw [hx] at hgk
      have hts := take_snoc' hgk
      have hxk := hk8 x (List.mem_of_getElem? hgk)
      have hwk2 : IntKind.i64.wrap (x.k : Int) = (x.k : Int) := IntWalk.i64_in _ (by omega)
      have hwk : wrap64 (x.k : Int) = (x.k : Int) := IntWalk.wrap64_in _ ⟨by omega, by omega⟩
      obtain ⟨b, off, rfl, hbl, hcell⟩ := hrow (by rintro rfl; simp at hlt)
      have hrow1 : isT (some ⟨b, off, none⟩) L wr := hrow
      obtain ⟨SX, hSX⟩ : ∃ SX, bstr x.s = SX := ⟨_, rfl⟩
      have hcl : Hid (∀ W : World, isT (some ⟨b, off, none⟩) L W → b < W.heap.size ∧ W.cell? ⟨b, off + k * 3, none⟩ = some (.int .u8 x.k) ∧ W.cell? ⟨b, off + k * 3 + 1, none⟩ = some (.string SX) ∧ W.cell? ⟨b, off + k * 3 + 2, none⟩ = some (.int .i64 x.o)) := fun W h => by
        obtain ⟨b', off', e, h1, h2⟩ := h (by rintro rfl; simp at hlt)
        cases e
        rw [← hSX]
        exact ⟨h1, h2 k x hgk⟩
      have hcs : cellsU (L.take (k + 1)) = cellsU (L.take k) ++ [.int .i64 x.k, .string SX, .int .i64 x.o] := by rw [hts, cellsU_snoc, hSX]
      have HCS := Lib.hid hcs
      generalize cellsU (L.take k) = cs at *
      have hki : (k : Int) < L.length := by omega
      have hbg : b < g := hAb (by rintro rfl; simp at hlt) _ rfl
      have hgw : g ≤ wr.heap.size := by have := hB.size; have := HG.out; omega
      obtain ⟨h0, hh0⟩ : ∃ h0, wr.heap.size = h0 := ⟨_, rfl⟩
      clear hts hgk hx hcell hSX hrow hcs
      go_wp2_with fail
      refine wp_region_inv (Inv := fun Lb a W => ∃ b0 b1 b2 b3 b4 b5 b6 b7 b8 b9 b10 b11 b12 b13 b14 b15 b16 b17 b18 b19 b20 : Bool, ∃ (G c : Nat), Lb = #[b0, b1, b2, b3, b4, b5, b6, b7, b8, b9, b10, b11, b12, b13, b14, b15, b16, b17, b18, b19, b20] ∧ a = { tmps := #[.slice (some ⟨b, off, none⟩) L.length cA, undef, .slice none 0 0, (bif b20 then .slice (some ⟨G, 0, none⟩) (k + 1) c else u3), .int .i64 (k : Nat), .int .i64 (k : Nat), .slice (some ⟨b, off, none⟩) L.length cA, .int .i64 L.length, .bool true, u9, u10, (bif b0 then u3 else u11), (bif b1 then .slice (some ⟨b, off, none⟩) L.length cA else u12), (bif b2 then .int .i64 (k : Nat) else u13), (bif b3 then .pointer (some ⟨b, off + k * 3, none⟩) else u14), (bif b4 then .pointer (some ⟨b, off + k * 3, none⟩) else u15), (bif b5 then .int .u8 x.k else u16), (bif b6 then .int .i64 x.k else u17), (bif b7 then .slice (some ⟨b, off, none⟩) L.length cA else u18), (bif b8 then .int .i64 (k : Nat) else u19), (bif b9 then .pointer (some ⟨b, off + k * 3, none⟩) else u20), (bif b10 then .pointer (some ⟨b, off + k * 3 + 1, none⟩) else u21), (bif b11 then .string SX else u22), (bif b12 then .slice (some ⟨b, off, none⟩) L.length cA else u23), (bif b13 then .int .i64 (k : Nat) else u24), (bif b14 then .pointer (some ⟨b, off + k * 3, none⟩) else u25), (bif b15 then .pointer (some ⟨b, off + k * 3 + 2, none⟩) else u26), (bif b16 then .int .i64 x.o else u27), (bif b17 then .agg #[.int .i64 x.k, .string SX, .int .i64 x.o] else u28), (bif b18 then .slice (some ⟨h0, 0, none⟩) 1 1 else u29), (bif b19 then .slice (some ⟨G, 0, none⟩) (k + 1) c else u30), undef], defers := [] } ∧ (b19 = true → b18 = true ∧ b0 = true) ∧ (b20 = true → b19 = true) ∧ isT (some ⟨b, off, none⟩) L W ∧ (b19 = false → W.heap.size = (bif b18 then h0 + 1 else h0) ∧ W.ownsRow g 50 3 u3 k cs ∧ (b18 = true → BoxN W h0 50 #[.int .i64 x.k, .string SX, .int .i64 x.o])) ∧ (b19 = true → W.ownsRow g 50 3 (.slice (some ⟨G, 0, none⟩) (k + 1) c) (k + 1) (cs ++ [.int .i64 x.k, .string SX, .int .i64 x.o])) ∧ Below g w W) (by kernel_rfl) (down_of (by decide +kernel)) ?start ?size ?done ?step
      case start => exact ⟨false, false, false, false, false, false, false, false, false, false, false, false, false, false, false, false, false, false, false, false, false, 0, 0, rfl, rfl, by simp, by simp, hrow1.drewN 1, fun _ => ⟨hh0, hown.drew, by simp⟩, by simp, hB.drew⟩
      case size =>
        rintro Lb a W ⟨b0, b1, b2, b3, b4, b5, b6, b7, b8, b9, b10, b11, b12, b13, b14, b15, b16, b17, b18, b19, b20, G, c, rfl, -⟩
        rfl
      case step =>
        rintro Lb a W i o ⟨b0, b1, b2, b3, b4, b5, b6, b7, b8, b9, b10, b11, b12, b13, b14, b15, b16, b17, b18, b19, b20, G, c, rfl, rfl, p19, p20, hT, hF, hO, hBW⟩ ho hl' hdep
        have hi' : i < 21 := (Array.getElem?_eq_some_iff.1 ho).1
        have hi2 : i = 0 ∨ i = 1 ∨ i = 2 ∨ i = 3 ∨ i = 4 ∨ i = 5 ∨ i = 6 ∨ i = 7 ∨ i = 8 ∨ i = 9 ∨ i = 10 ∨ i = 11 ∨ i = 12 ∨ i = 13 ∨ i = 14 ∨ i = 15 ∨ i = 16 ∨ i = 17 ∨ i = 18 ∨ i = 19 ∨ i = 20 := by omega
        clear hi' hrow1 hown hB
        obtain ⟨hbl', d0, d1, d2⟩ := hcl.out W hT
        replace p19 := Lib.hid p19
        replace p20 := Lib.hid p20
        replace hT := Lib.hid hT
        replace hF := Lib.hid hF
        replace hO := Lib.hid hO
        replace hBW := Lib.hid hBW
        rcases hi2 with rfl | rfl | rfl | rfl | rfl | rfl | rfl | rfl | rfl | rfl | rfl | rfl | rfl | rfl | rfl | rfl | rfl | rfl | rfl | rfl | rfl
        · cases ho
          obtain rfl : b0 = false := hl'
          clear hdep
          obtain rfl : b19 = false := by cases b19 with | false => rfl | true => exact absurd (p19.out rfl).2 (by simp)
          obtain rfl : b20 = false := by cases b20 with | false => rfl | true => exact absurd (p20.out rfl) (by simp)
          refine wpOp_step rfl (fun K hK => ?_)
          go_simp
          refine hK _ _ ?_; clear hK K
          exact ⟨true, b1, b2, b3, b4, b5, b6, b7, b8, b9, b10, b11, b12, b13, b14, b15, b16, b17, b18, false, false, G, c, rfl, rfl, by simp, by simp, hT.out, hF.out, hO.out, hBW.out⟩
        · cases ho
          obtain rfl : b1 = false := hl'
          clear hdep
          refine wpOp_step rfl (fun K hK => ?_)
          go_simp
          refine hK _ _ ?_; clear hK K
          exact ⟨b0, true, b2, b3, b4, b5, b6, b7, b8, b9, b10, b11, b12, b13, b14, b15, b16, b17, b18, b19, b20, G, c, rfl, rfl, p19.out, p20.out, hT.out, hF.out, hO.out, hBW.out⟩
        · cases ho
          obtain rfl : b2 = false := hl'
          clear hdep
          refine wpOp_step rfl (fun K hK => ?_)
          go_simp
          refine hK _ _ ?_; clear hK K
          exact ⟨b0, b1, true, b3, b4, b5, b6, b7, b8, b9, b10, b11, b12, b13, b14, b15, b16, b17, b18, b19, b20, G, c, rfl, rfl, p19.out, p20.out, hT.out, hF.out, hO.out, hBW.out⟩
        · cases ho
          obtain rfl : b3 = false := hl'
          obtain rfl : b1 = true := hdep ⟨1, .data⟩ (by simp) rfl
          obtain rfl : b2 = true := hdep ⟨2, .data⟩ (by simp) rfl
          clear hdep
          refine wpOp_step rfl (fun K hK => ?_)
          simp only [cond_true]
          go_simp
          refine hK _ _ ?_; clear hK K
          exact ⟨b0, true, true, true, b4, b5, b6, b7, b8, b9, b10, b11, b12, b13, b14, b15, b16, b17, b18, b19, b20, G, c, rfl, rfl, p19.out, p20.out, hT.out, hF.out, hO.out, hBW.out⟩
        · cases ho
          obtain rfl : b4 = false := hl'
          obtain rfl : b3 = true := hdep ⟨3, .data⟩ (by simp) rfl
          clear hdep
          refine wpOp_step rfl (fun K hK => ?_)
          simp only [cond_true]
          go_simp
          refine hK _ _ ?_; clear hK K
          exact ⟨b0, b1, b2, true, true, b5, b6, b7, b8, b9, b10, b11, b12, b13, b14, b15, b16, b17, b18, b19, b20, G, c, rfl, rfl, p19.out, p20.out, hT.out, hF.out, hO.out, hBW.out⟩
        · cases ho
          obtain rfl : b5 = false := hl'
          obtain rfl : b4 = true := hdep ⟨4, .data⟩ (by simp) rfl
          clear hdep
          refine wpOp_step rfl (fun K hK => ?_)
          simp only [cond_true]
          go_simp
          refine hK _ _ ?_; clear hK K
          exact ⟨b0, b1, b2, b3, true, true, b6, b7, b8, b9, b10, b11, b12, b13, b14, b15, b16, b17, b18, b19, b20, G, c, rfl, rfl, p19.out, p20.out, hT.out, hF.out, hO.out, hBW.out⟩
        · cases ho
          obtain rfl : b6 = false := hl'
          obtain rfl : b5 = true := hdep ⟨5, .data⟩ (by simp) rfl
          clear hdep
          refine wpOp_step rfl (fun K hK => ?_)
          simp only [cond_true]
          go_simp
          refine hK _ _ ?_; clear hK K
          exact ⟨b0, b1, b2, b3, b4, true, true, b7, b8, b9, b10, b11, b12, b13, b14, b15, b16, b17, b18, b19, b20, G, c, rfl, rfl, p19.out, p20.out, hT.out, hF.out, hO.out, hBW.out⟩
        · cases ho
          obtain rfl : b7 = false := hl'
          clear hdep
          refine wpOp_step rfl (fun K hK => ?_)
          go_simp
          refine hK _ _ ?_; clear hK K
          exact ⟨b0, b1, b2, b3, b4, b5, b6, true, b8, b9, b10, b11, b12, b13, b14, b15, b16, b17, b18, b19, b20, G, c, rfl, rfl, p19.out, p20.out, hT.out, hF.out, hO.out, hBW.out⟩
        · cases ho
          obtain rfl : b8 = false := hl'
          clear hdep
          refine wpOp_step rfl (fun K hK => ?_)
          go_simp
          refine hK _ _ ?_; clear hK K
          exact ⟨b0, b1, b2, b3, b4, b5, b6, b7, true, b9, b10, b11, b12, b13, b14, b15, b16, b17, b18, b19, b20, G, c, rfl, rfl, p19.out, p20.out, hT.out, hF.out, hO.out, hBW.out⟩
        · cases ho
          obtain rfl : b9 = false := hl'
          obtain rfl : b7 = true := hdep ⟨7, .data⟩ (by simp) rfl
          obtain rfl : b8 = true := hdep ⟨8, .data⟩ (by simp) rfl
          clear hdep
          refine wpOp_step rfl (fun K hK => ?_)
          simp only [cond_true]
          go_simp
          refine hK _ _ ?_; clear hK K
          exact ⟨b0, b1, b2, b3, b4, b5, b6, true, true, true, b10, b11, b12, b13, b14, b15, b16, b17, b18, b19, b20, G, c, rfl, rfl, p19.out, p20.out, hT.out, hF.out, hO.out, hBW.out⟩
        · cases ho
          obtain rfl : b10 = false := hl'
          obtain rfl : b9 = true := hdep ⟨9, .data⟩ (by simp) rfl
          clear hdep
          refine wpOp_step rfl (fun K hK => ?_)
          simp only [cond_true]
          go_simp
          refine hK _ _ ?_; clear hK K
          exact ⟨b0, b1, b2, b3, b4, b5, b6, b7, b8, true, true, b11, b12, b13, b14, b15, b16, b17, b18, b19, b20, G, c, rfl, rfl, p19.out, p20.out, hT.out, hF.out, hO.out, hBW.out⟩
        · cases ho
          obtain rfl : b11 = false := hl'
          obtain rfl : b10 = true := hdep ⟨10, .data⟩ (by simp) rfl
          clear hdep
          refine wpOp_step rfl (fun K hK => ?_)
          simp only [cond_true]
          go_simp
          refine hK _ _ ?_; clear hK K
          exact ⟨b0, b1, b2, b3, b4, b5, b6, b7, b8, b9, true, true, b12, b13, b14, b15, b16, b17, b18, b19, b20, G, c, rfl, rfl, p19.out, p20.out, hT.out, hF.out, hO.out, hBW.out⟩
        · cases ho
          obtain rfl : b12 = false := hl'
          clear hdep
          refine wpOp_step rfl (fun K hK => ?_)
          go_simp
          refine hK _ _ ?_; clear hK K
          exact ⟨b0, b1, b2, b3, b4, b5, b6, b7, b8, b9, b10, b11, true, b13, b14, b15, b16, b17, b18, b19, b20, G, c, rfl, rfl, p19.out, p20.out, hT.out, hF.out, hO.out, hBW.out⟩
        · cases ho
          obtain rfl : b13 = false := hl'
          clear hdep
          refine wpOp_step rfl (fun K hK => ?_)
          go_simp
          refine hK _ _ ?_; clear hK K
          exact ⟨b0, b1, b2, b3, b4, b5, b6, b7, b8, b9, b10, b11, b12, true, b14, b15, b16, b17, b18, b19, b20, G, c, rfl, rfl, p19.out, p20.out, hT.out, hF.out, hO.out, hBW.out⟩
        · cases ho
          obtain rfl : b14 = false := hl'
          obtain rfl : b12 = true := hdep ⟨12, .data⟩ (by simp) rfl
          obtain rfl : b13 = true := hdep ⟨13, .data⟩ (by simp) rfl
          clear hdep
          refine wpOp_step rfl (fun K hK => ?_)
          simp only [cond_true]
          go_simp
          refine hK _ _ ?_; clear hK K
          exact ⟨b0, b1, b2, b3, b4, b5, b6, b7, b8, b9, b10, b11, true, true, true, b15, b16, b17, b18, b19, b20, G, c, rfl, rfl, p19.out, p20.out, hT.out, hF.out, hO.out, hBW.out⟩
        · cases ho
          obtain rfl : b15 = false := hl'
          obtain rfl : b14 = true := hdep ⟨14, .data⟩ (by simp) rfl
          clear hdep
          refine wpOp_step rfl (fun K hK => ?_)
          simp only [cond_true]
          go_simp
          refine hK _ _ ?_; clear hK K
          exact ⟨b0, b1, b2, b3, b4, b5, b6, b7, b8, b9, b10, b11, b12, b13, true, true, b16, b17, b18, b19, b20, G, c, rfl, rfl, p19.out, p20.out, hT.out, hF.out, hO.out, hBW.out⟩
        · cases ho
          obtain rfl : b16 = false := hl'
          obtain rfl : b15 = true := hdep ⟨15, .data⟩ (by simp) rfl
          clear hdep
          refine wpOp_step rfl (fun K hK => ?_)
          simp only [cond_true]
          go_simp
          refine hK _ _ ?_; clear hK K
          exact ⟨b0, b1, b2, b3, b4, b5, b6, b7, b8, b9, b10, b11, b12, b13, b14, true, true, b17, b18, b19, b20, G, c, rfl, rfl, p19.out, p20.out, hT.out, hF.out, hO.out, hBW.out⟩
        · cases ho
          obtain rfl : b17 = false := hl'
          obtain rfl : b6 = true := hdep ⟨6, .data⟩ (by simp) rfl
          obtain rfl : b11 = true := hdep ⟨11, .data⟩ (by simp) rfl
          obtain rfl : b16 = true := hdep ⟨16, .data⟩ (by simp) rfl
          clear hdep
          refine wpOp_step rfl (fun K hK => ?_)
          simp only [cond_true]
          go_simp
          refine hK _ _ ?_; clear hK K
          exact ⟨b0, b1, b2, b3, b4, b5, true, b7, b8, b9, b10, true, b12, b13, b14, b15, true, true, b18, b19, b20, G, c, rfl, rfl, p19.out, p20.out, hT.out, hF.out, hO.out, hBW.out⟩
        · cases ho
          obtain rfl : b18 = false := hl'
          obtain rfl : b17 = true := hdep ⟨17, .data⟩ (by simp) rfl
          clear hdep
          obtain rfl : b19 = false := by cases b19 with | false => rfl | true => exact absurd (p19.out rfl).1 (by simp)
          obtain rfl : b20 = false := by cases b20 with | false => rfl | true => exact absurd (p20.out rfl) (by simp)
          obtain ⟨hsz, hrw, _⟩ := hF.out rfl
          have hsz1 : W.heap.size = h0 := hsz
          have hnew := BoxN.new W 50 #[.int .i64 x.k, .string SX, .int .i64 x.o]
          rw [hsz1] at hnew
          have hNW : g ≤ W.heap.size := by omega
          refine wpOp_step rfl (fun K hK => ?_)
          simp only [cond_true]
          go_simp
          refine hK _ _ ?_; clear hK K
          exact ⟨b0, b1, b2, b3, b4, b5, b6, b7, b8, b9, b10, b11, b12, b13, b14, b15, b16, true, true, false, false, G, c, rfl, by first | rfl | (rw [hsz1]; rfl), by simp, by simp, hT.out.keep ((Below.refl _ W).alloc (Nat.le_refl _) _), fun _ => ⟨by rw [World.size_alloc, hsz1]; rfl, hrw.alloc _, fun _ => hnew⟩, by simp, hBW.out.alloc hNW _⟩
        · cases ho
          obtain rfl : b19 = false := hl'
          obtain rfl : b0 = true := hdep ⟨0, .data⟩ (by simp) rfl
          obtain rfl : b18 = true := hdep ⟨18, .data⟩ (by simp) rfl
          clear hdep
          obtain rfl : b20 = false := by cases b20 with | false => rfl | true => exact absurd (p20.out rfl) (by simp)
          obtain ⟨hsz, hrw, hnb⟩ := hF.out rfl
          have hsz1 : W.heap.size = h0 + 1 := hsz
          have hbx := hnb rfl
          have hNews := World.news_of_block (cs := #[.int .i64 x.k, .string SX, .int .i64 x.o]) (t := 50) (fr := (0, 0)) hbx
          refine wpOp_step rfl (fun K hK => ?_)
          refine step_append_lies _ rfl (.tmp 11) (.tmp 29) 30 rfl g 50 i0 _ 3 32 Try.underlying30 hi hz0 hz1 hz2 rfl (by decide) u3 k cs rfl hrw ⟨h0, 0, none⟩ 1 1 [.int .i64 x.k, .string SX, .int .i64 x.o] rfl rfl hNews (by simp [Value.oneCell']) (by decide) (by unfold maxLen; omega) (by omega) (by omega) _ rfl ?_
          intro G' c' w5 hn5 hg5 _ _
          refine hK _ _ ?_; clear hK K
          exact ⟨true, b1, b2, b3, b4, b5, b6, b7, b8, b9, b10, b11, b12, b13, b14, b15, b16, b17, true, true, false, G', c', rfl, rfl, fun _ => ⟨rfl, rfl⟩, by simp, isT_grown hT.out hg5 (fun j e => own_block_le hrw j e) hbg, by simp, fun _ => hn5, hBW.out.grown hg5 (by omega) (fun j e => own_block_le hrw j e)⟩
        · cases ho
          obtain rfl : b20 = false := hl'
          obtain rfl : b19 = true := hdep ⟨19, .data⟩ (by simp) rfl
          clear hdep
          refine wpOp_step rfl (fun K hK => ?_)
          simp only [cond_true]
          go_simp
          refine hK _ _ ?_; clear hK K
          exact ⟨b0, b1, b2, b3, b4, b5, b6, b7, b8, b9, b10, b11, b12, b13, b14, b15, b16, b17, b18, true, true, G, c, rfl, rfl, p19.out, fun _ => rfl, hT.out, hF.out, hO.out, hBW.out⟩
      case done =>
        rintro Lb a W ⟨q0, q1, q2, q3, q4, q5, q6, q7, q8, q9, q10, q11, q12, q13, q14, q15, q16, q17, q18, q19, q20, G, c, rfl, rfl, -, -, hT, -, hO, hBW⟩ hall
        obtain rfl : q0 = true := hall 0 (by decide)
        obtain rfl : q1 = true := hall 1 (by decide)
        obtain rfl : q2 = true := hall 2 (by decide)
        obtain rfl : q3 = true := hall 3 (by decide)
        obtain rfl : q4 = true := hall 4 (by decide)
        obtain rfl : q5 = true := hall 5 (by decide)
        obtain rfl : q6 = true := hall 6 (by decide)
        obtain rfl : q7 = true := hall 7 (by decide)
        obtain rfl : q8 = true := hall 8 (by decide)
        obtain rfl : q9 = true := hall 9 (by decide)
        obtain rfl : q10 = true := hall 10 (by decide)
        obtain rfl : q11 = true := hall 11 (by decide)
        obtain rfl : q12 = true := hall 12 (by decide)
        obtain rfl : q13 = true := hall 13 (by decide)
        obtain rfl : q14 = true := hall 14 (by decide)
        obtain rfl : q15 = true := hall 15 (by decide)
        obtain rfl : q16 = true := hall 16 (by decide)
        obtain rfl : q17 = true := hall 17 (by decide)
        obtain rfl : q18 = true := hall 18 (by decide)
        obtain rfl : q19 = true := hall 19 (by decide)
        obtain rfl : q20 = true := hall 20 (by decide)
        simp only [cond_true] at hO ⊢
        have HO := Lib.hid (hO trivial)
        clear hall hO hrow1 hown hB
        go_wp2_with fail
        go_roundw
        case rel => exact ⟨k + 1, by omega, by go_num, hT, by rw [HCS.out]; exact HO.out, hBW⟩
        case measure => simp [intOf]; omega
    · obtain rfl : k = L.length := by omega
      rw [List.take_length] at hown
      obtain ⟨G, c, rfl⟩ := own_slice hown
      have HO := Lib.hid hown
      clear hown hrow
      go_wp2_with fail
      go_ret
      exact ⟨G, c, rfl, by rw [HG.out]; exact HO.out, by rw [HG.out]; exact hB⟩
end Go.Proofs.Ytbpncbomcdpogaa
