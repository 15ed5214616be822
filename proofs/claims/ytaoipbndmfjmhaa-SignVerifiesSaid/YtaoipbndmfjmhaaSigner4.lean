/- The contract of a signer's Sign with a key left (gensgn.py). -/
import Derived.Test.YtaoipbndmfjmhaaSigner3
namespace Go.Proofs.Ytaoipbndmfjmhaa
open Go.RowKit Go.Joins

theorem step_store_row {P : Program} {ops : Array Oper} {o : Oper} {a : Act} {w : World} {K : Act → World → Prop} {Q : Exit → Act → World → Prop} {E : Prop} (hw : Region.wanted o (yielded ops a.tmps) = true) (ty : TypeId) (x y : Operand) (ho : o.op = .store ty x y)
    (g : Nat) (cells : Array Value) (hx : a.eval x = .pointer (some ⟨g, 0, none⟩)) (hy : a.eval y = .agg cells)
    (t : TypeId) (old : Array Value) (hg : w.heap[g]? = some (.cells old t (0, 0))) (hi : (P.info? ty).map (·.size) = some cells.size)
    (hold : old.size = cells.size) (h1 : cells.all (·.oneCell') = true) (h : K (a.put o.dst undef) (w.setRow g cells)) : if Region.wanted o (yielded ops a.tmps) = true then Oper.wp P o a w K Q else E := by
  rw [hw, if_pos rfl]
  unfold Oper.wp execOp
  simp only [ho, hx, hy, Instr.storeAt, Instr.sureAddr, Sem.run_bind, Sem.run_pure, Result.andThen_ok, run_storeVar_row (P := P) w g t ty old cells hg hi hold h1]
  exact h

theorem isQ_far {W : World} {G : Option Addr} {l : List (BitVec 64)} {r : Nat} (h : isQ G l W) (hf : ∀ a, G = some a → r < a.block) (cs : Array Value) : isQ G l (W.setRow r cs) := fun hne => by
  obtain ⟨b, off, rfl, hb, hr⟩ := h hne
  have hlt : r < b := hf _ rfl
  have hh : (W.setRow r cs).heap[b]? = W.heap[b]? := setRow_other W r b cs (by omega)
  have hb' : b < (W.setRow r cs).heap.size := by
    rw [Array.getElem?_eq_getElem hb] at hh
    exact (Array.getElem?_eq_some_iff.1 hh).1
  refine ⟨b, off, rfl, hb', fun k z hz => ?_⟩
  rw [World.cell?_of_block (a := ⟨b, off + k, none⟩) hh]
  exact hr k z hz

set_option maxRecDepth 100000 in
set_option maxHeartbeats 8000000 in
theorem msign_ok (g : Nat) (seed d : BitVec 64) (h u : Nat) (hh : h ≤ 6) (hu : u < 2 ^ h) (w : World) (hb : BoxN w g 63 (SgC true seed h u)) :
    Calls Try.prog 32 #[.pointer (some ⟨g, 0, none⟩), U64 d] w fun e w' => ∃ G c, e = .returned (.tuple #[.agg (sgA u (chainV seed d u) (.slice G h c)), .int .i64 0]) ∧ isQ G (pathV seed h u) w' ∧ BoxN w' g 63 (SgC true seed h (u + 1)) ∧ Below g w w' := by
  have HM : Hid (∀ W, BoxN W g 63 (SgC true seed h u) → _) := fun W hb => made_yes g seed h u W hb
  have HL : Hid (∀ W, BoxN W g 63 (SgC true seed h u) → _) := fun W hb => left_yes g seed h u hh (by omega) W hb
  have HS : Hid (∀ W : World, _) := fun W => sign_okF seed d h u hh hu W
  have h64 : 2 ^ h ≤ 2 ^ 6 := Nat.pow_le_pow_right (by decide) hh
  obtain ⟨lf, hlf⟩ : ∃ lf, 2 ^ h - u = lf := ⟨_, rfl⟩
  have hlf0 : 0 < lf := by omega
  rw [hlf] at HL
  have hu64 : u < 64 := by omega
  have hgw := hb.lt
  have hzs := zero_sig
  obtain ⟨Z, hZ⟩ : ∃ Z, (#[.int .i64 0, .int .u64 0, .int .u64 0, .int .u64 0, .int .u64 0, .int .u64 0, .int .u64 0, .int .u64 0, .int .u64 0, .int .u64 0, .int .u64 0, .int .u64 0, .int .u64 0, .int .u64 0, .int .u64 0, .int .u64 0, .int .u64 0, .int .u64 0, .int .u64 0, .slice none 0 0] : Array Value) = Z := ⟨_, rfl⟩
  have hZs : Z.size = 20 := by rw [← hZ]; rfl
  rw [hZ] at hzs
  have hne0 : ((lf : Int) == 0) = false := by simp; omega
  clear hZ hu hlf
  obtain ⟨PV, hPV⟩ : ∃ PV, pathV seed h u = PV := ⟨_, rfl⟩
  rw [hPV] at HS ⊢
  obtain ⟨T, hT⟩ : ∃ T : Option Addr → Nat → Array Value, (fun G c => sgA u (chainV seed d u) (.slice G h c)) = T := ⟨_, rfl⟩
  have HT : ∀ G c, sgA u (chainV seed d u) (.slice G h c) = T G c := fun G c => congrFun (congrFun hT G) c
  have hTs : ∀ G c, (T G c).size = 20 := fun G c => by rw [← HT, sgA_size]
  have hTo : ∀ G c, (T G c).all (·.oneCell') = true := fun G c => by rw [← HT]; exact sgA_one _ _ _ rfl
  simp only [HT] at HS ⊢
  clear hT hPV HT
  go_enter Try.func32, Try.ntmps32
  go_wp2_with fail
  have b8 : BoxN (w.alloc (.cells Z 34)) w.heap.size 34 Z := BoxN.new w _ _
  have hB : Below w.heap.size w (w.alloc (.cells Z 34)) := (Below.refl _ w).alloc (Nat.le_refl _) _
  replace hb := hb.alloc (.cells Z 34)
  generalize w.alloc (.cells Z 34) = w0 at b8 hB hb ⊢
  (with_reducible refine (HM.out _ hb).mono ?_); rintro e w1 ⟨rfl, hb1⟩
  replace b8 := b8.keep hb1
  replace hb := hb.keep hb1
  replace hB := hB.trans (hb1.mono hB.size)
  clear hb1
  go_wp2_with fail
  (with_reducible refine (HL.out _ hb).mono ?_); rintro e w2 ⟨rfl, hb1⟩
  replace b8 := b8.keep hb1
  replace hb := hb.keep hb1
  replace hB := hB.trans (hb1.mono hB.size)
  clear hb1
  obtain ⟨_, c1, c2, c3⟩ := SgC.cells hb
  have f3 := hb.frozen 3
  have hl := hb.lt
  go_wp2_with fail
  have hS3 := hb.set1 3 (.int .i64 (u + 1))
  rw [show (SgC true seed h u).setIfInBounds 3 (.int .i64 (u + 1)) = SgC true seed h (u + 1) from rfl] at hS3
  have b8c := b8.far (p := ⟨g, 3, none⟩) (by simp; omega) (.int .i64 (u + 1))
  have hBc : Below g w (w2.setCell ⟨g, 3, none⟩ (.int .i64 (u + 1))) := (hB.mono (by omega)).setCell (Nat.le_refl g) _
  clear hb b8 hB c1 c2 c3 f3 hl
  generalize w2.setCell ⟨g, 3, none⟩ (.int .i64 (u + 1)) = W3 at hS3 b8c hBc ⊢
  have wu : IntKind.i64.wrap (u : Int) = (u : Int) := wrapI (by omega) (by omega)
  clear HM HL hzs
  refine wp_region_inv (Inv := fun L a W => ∃ b0 b1 b2 b3 b4 b5 b6 b7 b8 b9 b10 b11 b12 b13 b14 b15 b16 b17 b18 : Bool, ∃ (G : Option Addr) (c : Nat), L = #[b0, b1, b2, b3, b4, b5, b6, b7, b8, b9, b10, b11, b12, b13, b14, b15, b16, b17, b18] ∧ a = { tmps := #[.pointer (some ⟨g, 0, none⟩), U64 d, undef, undef, .pointer (some ⟨w.heap.size, 0, none⟩), .int .i64 0, .func (.func 31) #[.pointer (some ⟨g, 0, none⟩)] #[], .pointer (some ⟨g, 0, none⟩), .bool true, .bool false, undef, .pointer (some ⟨g, 0, none⟩), .func (.func 31) #[.pointer (some ⟨g, 0, none⟩)] #[], .func (.func 31) #[.pointer (some ⟨g, 0, none⟩)] #[], .int .i64 lf, .bool false, undef, .pointer (some ⟨g, 0, none⟩), .pointer (some ⟨g, 0, none⟩), .pointer (some ⟨g, 3, none⟩), .int .i64 u, .int .i64 (u + 1), .pointer (some ⟨g, 0, none⟩), .pointer (some ⟨g, 3, none⟩), (bif b0 then .pointer (some ⟨g, 0, none⟩) else undef), (bif b1 then .pointer (some ⟨g, 0, none⟩) else undef), (bif b2 then .pointer (some ⟨g, 1, none⟩) else undef), (bif b3 then U64 seed else undef), (bif b4 then .pointer (some ⟨g, 0, none⟩) else undef), (bif b5 then .pointer (some ⟨g, 0, none⟩) else undef), (bif b6 then .pointer (some ⟨g, 2, none⟩) else undef), (bif b7 then .int .i64 h else undef), (bif b8 then .pointer (some ⟨g, 0, none⟩) else undef), (bif b9 then .pointer (some ⟨g, 0, none⟩) else undef), (bif b10 then .pointer (some ⟨g, 3, none⟩) else undef), (bif b11 then .int .i64 (u + 1) else undef), (bif b12 then .int .i64 u else undef), (bif b13 then U64 d else undef), (bif b14 then .tuple #[.agg (T G c), .int .i64 0] else undef), (bif b15 then .agg (T G c) else undef), (bif b16 then .int .i64 0 else undef)], defers := [] } ∧ (b15 = true → b14 = true) ∧ (b16 = true → b14 = true) ∧ (b17 = true → b14 = true) ∧ (b14 = true → isQ G PV W) ∧ (∀ a, G = some a → w.heap.size < a.block) ∧ BoxN W g 63 (SgC true seed h (u + 1)) ∧ BoxN W w.heap.size 34 (bif b17 then T G c else Z) ∧ Below g w W) (by kernel_rfl) (down_of (by decide +kernel)) ?start ?size ?done ?step
  case start => exact ⟨false, false, false, false, false, false, false, false, false, false, false, false, false, false, false, false, false, false, false, none, 0, rfl, rfl, by simp, by simp, by simp, by simp, (fun _ e => by cases e), hS3.drew, b8c.drew, hBc.drew⟩
  case size =>
    rintro L a W ⟨b0, b1, b2, b3, b4, b5, b6, b7, b8, b9, b10, b11, b12, b13, b14, b15, b16, b17, b18, G, c, rfl, -⟩
    rfl
  case step =>
    rintro L a W i o ⟨b0, b1, b2, b3, b4, b5, b6, b7, b8, b9, b10, b11, b12, b13, b14, b15, b16, b17, b18, G, c, rfl, rfl, p15, p16, p17, hq, hfr, hbS, hbR, hBW⟩ ho hl' hdep
    have hi : i < 19 := (Array.getElem?_eq_some_iff.1 ho).1
    have hi' : i = 0 ∨ i = 1 ∨ i = 2 ∨ i = 3 ∨ i = 4 ∨ i = 5 ∨ i = 6 ∨ i = 7 ∨ i = 8 ∨ i = 9 ∨ i = 10 ∨ i = 11 ∨ i = 12 ∨ i = 13 ∨ i = 14 ∨ i = 15 ∨ i = 16 ∨ i = 17 ∨ i = 18 := by omega
    clear hi hS3 b8c hBc
    replace p15 := Lib.hid p15
    replace p16 := Lib.hid p16
    replace p17 := Lib.hid p17
    replace hq := Lib.hid hq
    replace hfr := Lib.hid hfr
    replace hbR := Lib.hid hbR
    replace hBW := Lib.hid hBW
    obtain ⟨_, c1, c2, c3⟩ := SgC.cells hbS
    have hl := hbS.lt
    have hbS := Lib.hid hbS
    rcases hi' with rfl | rfl | rfl | rfl | rfl | rfl | rfl | rfl | rfl | rfl | rfl | rfl | rfl | rfl | rfl | rfl | rfl | rfl | rfl
    · cases ho
      obtain rfl : b0 = false := hl'
      clear hdep
      refine wpOp_step rfl (fun K hK => ?_)
      go_simp
      refine hK _ _ ?_; clear hK K
      exact ⟨true, b1, b2, b3, b4, b5, b6, b7, b8, b9, b10, b11, b12, b13, b14, b15, b16, b17, b18, G, c, rfl, rfl, p15.out, p16.out, p17.out, hq.out, hfr.out, hbS.out, hbR.out, hBW.out⟩
    · cases ho
      obtain rfl : b1 = false := hl'
      obtain rfl : b0 = true := hdep ⟨0, .data⟩ (by simp) rfl
      clear hdep
      refine wpOp_step rfl (fun K hK => ?_)
      simp only [cond_true]
      go_simp
      refine hK _ _ ?_; clear hK K
      exact ⟨true, true, b2, b3, b4, b5, b6, b7, b8, b9, b10, b11, b12, b13, b14, b15, b16, b17, b18, G, c, rfl, rfl, p15.out, p16.out, p17.out, hq.out, hfr.out, hbS.out, hbR.out, hBW.out⟩
    · cases ho
      obtain rfl : b2 = false := hl'
      obtain rfl : b1 = true := hdep ⟨1, .data⟩ (by simp) rfl
      clear hdep
      refine wpOp_step rfl (fun K hK => ?_)
      simp only [cond_true]
      go_simp
      refine hK _ _ ?_; clear hK K
      exact ⟨b0, true, true, b3, b4, b5, b6, b7, b8, b9, b10, b11, b12, b13, b14, b15, b16, b17, b18, G, c, rfl, rfl, p15.out, p16.out, p17.out, hq.out, hfr.out, hbS.out, hbR.out, hBW.out⟩
    · cases ho
      obtain rfl : b3 = false := hl'
      obtain rfl : b2 = true := hdep ⟨2, .data⟩ (by simp) rfl
      clear hdep
      refine wpOp_step rfl (fun K hK => ?_)
      simp only [cond_true]
      go_simp
      refine hK _ _ ?_; clear hK K
      exact ⟨b0, b1, true, true, b4, b5, b6, b7, b8, b9, b10, b11, b12, b13, b14, b15, b16, b17, b18, G, c, rfl, rfl, p15.out, p16.out, p17.out, hq.out, hfr.out, hbS.out, hbR.out, hBW.out⟩
    · cases ho
      obtain rfl : b4 = false := hl'
      clear hdep
      refine wpOp_step rfl (fun K hK => ?_)
      go_simp
      refine hK _ _ ?_; clear hK K
      exact ⟨b0, b1, b2, b3, true, b5, b6, b7, b8, b9, b10, b11, b12, b13, b14, b15, b16, b17, b18, G, c, rfl, rfl, p15.out, p16.out, p17.out, hq.out, hfr.out, hbS.out, hbR.out, hBW.out⟩
    · cases ho
      obtain rfl : b5 = false := hl'
      obtain rfl : b4 = true := hdep ⟨4, .data⟩ (by simp) rfl
      clear hdep
      refine wpOp_step rfl (fun K hK => ?_)
      simp only [cond_true]
      go_simp
      refine hK _ _ ?_; clear hK K
      exact ⟨b0, b1, b2, b3, true, true, b6, b7, b8, b9, b10, b11, b12, b13, b14, b15, b16, b17, b18, G, c, rfl, rfl, p15.out, p16.out, p17.out, hq.out, hfr.out, hbS.out, hbR.out, hBW.out⟩
    · cases ho
      obtain rfl : b6 = false := hl'
      obtain rfl : b5 = true := hdep ⟨5, .data⟩ (by simp) rfl
      clear hdep
      refine wpOp_step rfl (fun K hK => ?_)
      simp only [cond_true]
      go_simp
      refine hK _ _ ?_; clear hK K
      exact ⟨b0, b1, b2, b3, b4, true, true, b7, b8, b9, b10, b11, b12, b13, b14, b15, b16, b17, b18, G, c, rfl, rfl, p15.out, p16.out, p17.out, hq.out, hfr.out, hbS.out, hbR.out, hBW.out⟩
    · cases ho
      obtain rfl : b7 = false := hl'
      obtain rfl : b6 = true := hdep ⟨6, .data⟩ (by simp) rfl
      clear hdep
      refine wpOp_step rfl (fun K hK => ?_)
      simp only [cond_true]
      go_simp
      refine hK _ _ ?_; clear hK K
      exact ⟨b0, b1, b2, b3, b4, b5, true, true, b8, b9, b10, b11, b12, b13, b14, b15, b16, b17, b18, G, c, rfl, rfl, p15.out, p16.out, p17.out, hq.out, hfr.out, hbS.out, hbR.out, hBW.out⟩
    · cases ho
      obtain rfl : b8 = false := hl'
      clear hdep
      refine wpOp_step rfl (fun K hK => ?_)
      go_simp
      refine hK _ _ ?_; clear hK K
      exact ⟨b0, b1, b2, b3, b4, b5, b6, b7, true, b9, b10, b11, b12, b13, b14, b15, b16, b17, b18, G, c, rfl, rfl, p15.out, p16.out, p17.out, hq.out, hfr.out, hbS.out, hbR.out, hBW.out⟩
    · cases ho
      obtain rfl : b9 = false := hl'
      obtain rfl : b8 = true := hdep ⟨8, .data⟩ (by simp) rfl
      clear hdep
      refine wpOp_step rfl (fun K hK => ?_)
      simp only [cond_true]
      go_simp
      refine hK _ _ ?_; clear hK K
      exact ⟨b0, b1, b2, b3, b4, b5, b6, b7, true, true, b10, b11, b12, b13, b14, b15, b16, b17, b18, G, c, rfl, rfl, p15.out, p16.out, p17.out, hq.out, hfr.out, hbS.out, hbR.out, hBW.out⟩
    · cases ho
      obtain rfl : b10 = false := hl'
      obtain rfl : b9 = true := hdep ⟨9, .data⟩ (by simp) rfl
      clear hdep
      refine wpOp_step rfl (fun K hK => ?_)
      simp only [cond_true]
      go_simp
      refine hK _ _ ?_; clear hK K
      exact ⟨b0, b1, b2, b3, b4, b5, b6, b7, b8, true, true, b11, b12, b13, b14, b15, b16, b17, b18, G, c, rfl, rfl, p15.out, p16.out, p17.out, hq.out, hfr.out, hbS.out, hbR.out, hBW.out⟩
    · cases ho
      obtain rfl : b11 = false := hl'
      obtain rfl : b10 = true := hdep ⟨10, .data⟩ (by simp) rfl
      clear hdep
      refine wpOp_step rfl (fun K hK => ?_)
      simp only [cond_true]
      go_simp
      refine hK _ _ ?_; clear hK K
      exact ⟨b0, b1, b2, b3, b4, b5, b6, b7, b8, b9, true, true, b12, b13, b14, b15, b16, b17, b18, G, c, rfl, rfl, p15.out, p16.out, p17.out, hq.out, hfr.out, hbS.out, hbR.out, hBW.out⟩
    · cases ho
      obtain rfl : b12 = false := hl'
      obtain rfl : b11 = true := hdep ⟨11, .data⟩ (by simp) rfl
      clear hdep
      refine wpOp_step rfl (fun K hK => ?_)
      simp only [cond_true]
      go_simp
      refine hK _ _ ?_; clear hK K
      exact ⟨b0, b1, b2, b3, b4, b5, b6, b7, b8, b9, b10, true, true, b13, b14, b15, b16, b17, b18, G, c, rfl, rfl, p15.out, p16.out, p17.out, hq.out, hfr.out, hbS.out, hbR.out, hBW.out⟩
    · cases ho
      obtain rfl : b13 = false := hl'
      clear hdep
      refine wpOp_step rfl (fun K hK => ?_)
      go_simp
      refine hK _ _ ?_; clear hK K
      exact ⟨b0, b1, b2, b3, b4, b5, b6, b7, b8, b9, b10, b11, b12, true, b14, b15, b16, b17, b18, G, c, rfl, rfl, p15.out, p16.out, p17.out, hq.out, hfr.out, hbS.out, hbR.out, hBW.out⟩
    · cases ho
      obtain rfl : b14 = false := hl'
      obtain rfl : b3 = true := hdep ⟨3, .data⟩ (by simp) rfl
      obtain rfl : b7 = true := hdep ⟨7, .data⟩ (by simp) rfl
      obtain rfl : b12 = true := hdep ⟨12, .data⟩ (by simp) rfl
      obtain rfl : b13 = true := hdep ⟨13, .data⟩ (by simp) rfl
      clear hdep
      obtain rfl : b15 = false := by cases b15 with | false => rfl | true => exact absurd (p15.out rfl) (by simp)
      obtain rfl : b16 = false := by cases b16 with | false => rfl | true => exact absurd (p16.out rfl) (by simp)
      obtain rfl : b17 = false := by cases b17 with | false => rfl | true => exact absurd (p17.out rfl) (by simp)
      refine wpOp_step rfl (fun K hK => ?_)
      simp only [cond_true]
      go_simp
      (with_reducible refine (HS.out _).mono ?_); rintro e W2 ⟨G', c', rfl, hq', hb2, hfr'⟩
      refine hK _ _ ?_; clear hK K
      exact ⟨b0, b1, b2, true, b4, b5, b6, true, b8, b9, b10, b11, true, true, true, false, false, false, b18, G', c', rfl, rfl, by simp, by simp, by simp, fun _ => hq', (fun a ea => by have h1 := hfr' a ea; have h2 := hbR.out.lt; omega), hbS.out.keep hb2, hbR.out.keep hb2, hBW.out.trans (hb2.mono (by have := hBW.out.size; omega))⟩
    · cases ho
      obtain rfl : b15 = false := hl'
      obtain rfl : b14 = true := hdep ⟨14, .data⟩ (by simp) rfl
      clear hdep
      refine wpOp_step rfl (fun K hK => ?_)
      simp only [cond_true]
      go_simp
      refine hK _ _ ?_; clear hK K
      exact ⟨b0, b1, b2, b3, b4, b5, b6, b7, b8, b9, b10, b11, b12, b13, true, true, b16, b17, b18, G, c, rfl, rfl, (fun _ => rfl), p16.out, p17.out, hq.out, hfr.out, hbS.out, hbR.out, hBW.out⟩
    · cases ho
      obtain rfl : b16 = false := hl'
      obtain rfl : b14 = true := hdep ⟨14, .data⟩ (by simp) rfl
      clear hdep
      refine wpOp_step rfl (fun K hK => ?_)
      simp only [cond_true]
      go_simp
      refine hK _ _ ?_; clear hK K
      exact ⟨b0, b1, b2, b3, b4, b5, b6, b7, b8, b9, b10, b11, b12, b13, true, b15, true, b17, b18, G, c, rfl, rfl, p15.out, (fun _ => rfl), p17.out, hq.out, hfr.out, hbS.out, hbR.out, hBW.out⟩
    · cases ho
      obtain rfl : b17 = false := hl'
      obtain rfl : b15 = true := hdep ⟨15, .data⟩ (by simp) rfl
      clear hdep
      obtain rfl : b14 = true := p15.out rfl
      refine wpOp_step rfl (fun K hK => ?_)
      refine step_store_row (by rfl) 34 _ _ rfl w.heap.size (T G c) rfl rfl 34 Z hbR.out (by rw [hTs]; exact info_sig) (by rw [hTs, hZs]) (hTo G c) ?_
      refine hK _ _ ?_; clear hK K
      exact ⟨b0, b1, b2, b3, b4, b5, b6, b7, b8, b9, b10, b11, b12, b13, true, true, b16, true, b18, G, c, rfl, rfl, fun _ => rfl, p16.out, fun _ => rfl, fun _ => isQ_far (hq.out rfl) hfr.out (T G c), hfr.out, hbS.out.farRow (by omega) _, hbR.out.setRow _, below_setRow hBW.out (by omega) _⟩
    · cases ho
      obtain rfl : b18 = false := hl'
      obtain rfl : b16 = true := hdep ⟨16, .data⟩ (by simp) rfl
      clear hdep
      refine wpOp_step rfl (fun K hK => ?_)
      simp only [cond_true]
      go_simp
      refine hK _ _ ?_; clear hK K
      exact ⟨b0, b1, b2, b3, b4, b5, b6, b7, b8, b9, b10, b11, b12, b13, b14, b15, true, b17, true, G, c, rfl, rfl, p15.out, p16.out, p17.out, hq.out, hfr.out, hbS.out, hbR.out, hBW.out⟩
  case done =>
    rintro L a W ⟨q0, q1, q2, q3, q4, q5, q6, q7, q8, q9, q10, q11, q12, q13, q14, q15, q16, q17, q18, G, c, rfl, rfl, -, -, -, hq, -, hbS, hbR, hBW⟩ hall
    obtain rfl : q0 = true := hall 0 (by decide)
    obtain rfl : q1 = true := hall 1 (by decide)
    obtain rfl : q2 = true := hall 2 (by decide)
    obtain rfl : q3 = true := hall 3 (by decide)
    obtain rfl : q4 = true := hall 4 (by decide)
    obtain rfl : q5 = true := hall 5 (by decide)
    obtain rfl : q6 = true := hall 6 (by decide)
    obtain rfl : q7 = true := hall 7 (by decide)
    obtain rfl : q8 = true := hall 8 (by decide)
    obtain rfl : q9 = true := hall 9 (by decide)
    obtain rfl : q10 = true := hall 10 (by decide)
    obtain rfl : q11 = true := hall 11 (by decide)
    obtain rfl : q12 = true := hall 12 (by decide)
    obtain rfl : q13 = true := hall 13 (by decide)
    obtain rfl : q14 = true := hall 14 (by decide)
    obtain rfl : q15 = true := hall 15 (by decide)
    obtain rfl : q16 = true := hall 16 (by decide)
    obtain rfl : q17 = true := hall 17 (by decide)
    obtain rfl : q18 = true := hall 18 (by decide)
    simp only [cond_true] at hbR ⊢
    have hiR : (Try.prog.info? 34).map (·.size) = some (T G c).size := by rw [hTs]; exact info_sig
    have hq2 := Lib.hid (hq rfl)
    clear hq hall
    go_wp2_with fail
    refine bodyPost_ret (v := .tuple #[.agg (T G c), .int .i64 0]) (results_cell_tmp Try.results32 _ _ w.heap.size _ (T G c) _ rfl hbR Try.underlying34 rfl hiR) rfl ?_
    first
      | exact ⟨G, c, rfl, hq2.out, hbS, hBW⟩
      | exact ⟨G, ⟨c, rfl⟩, hq2.out, hbS, hBW⟩
end Go.Proofs.Ytaoipbndmfjmhaa
