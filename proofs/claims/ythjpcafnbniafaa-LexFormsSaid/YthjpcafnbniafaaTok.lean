/- The contract of token. (Written by gentok.py.) -/
import Derived.Test.YthjpcafnbniafaaIt
import Derived.Test.YthjpcafnbniafaaInvP
namespace Go.Proofs.Ythjpcafnbniafaa
open Go.RowKit Go.Joins

theorem zero_tok : ∀ w : World, (zeroValue 27).run Try.prog w = .ok (.agg #[.int .u8 0, .string ⟨#[]⟩, .int .i64 0]) w := fun _ => by kernel_rfl
theorem info_tok : (Try.prog.info? 27).map (·.size) = some 3 := by kernel_rfl
theorem step_store_row {P : Program} {ops : Array Oper} {o : Oper} {a : Act} {w : World} {K : Act → World → Prop} {Q : Exit → Act → World → Prop} {E : Prop} (hw : Region.wanted o (yielded ops a.tmps) = true) (ty : TypeId) (x y : Operand) (ho : o.op = .store ty x y)
    (g : Nat) (cells : Array Value) (hx : a.eval x = .pointer (some ⟨g, 0, none⟩)) (hy : a.eval y = .agg cells)
    (t : TypeId) (old : Array Value) (hg : w.heap[g]? = some (.cells old t (0, 0))) (hi : (P.info? ty).map (·.size) = some cells.size)
    (hold : old.size = cells.size) (h1 : cells.all (·.oneCell') = true) (h : K (a.put o.dst undef) (w.setRow g cells)) : if Region.wanted o (yielded ops a.tmps) = true then Oper.wp P o a w K Q else E := by
  rw [hw, if_pos rfl]
  unfold Oper.wp execOp
  simp only [ho, hx, hy, Instr.storeAt, Instr.sureAddr, Sem.run_bind, Sem.run_pure, Result.andThen_ok, run_storeVar_row (P := P) w g t ty old cells hg hi hold h1]
  exact h
theorem ScB.row {W : World} {b f1 f2 k g : Nat} {l : List (BitVec 8)} (h : ScB W b f1 f2 l k) (hb : b ≠ g) (h1 : f1 ≠ g) (h2 : f2 ≠ g) (cs : Array Value) : ScB (W.setRow g cs) b f1 f2 l k :=
  ⟨h.s.farRow hb _, h.x1.farRow h1 _, h.x2.farRow h2 _, h.n1, h.n2⟩
theorem ScB.far {W : World} {b f1 f2 k : Nat} {l : List (BitVec 8)} (h : ScB W b f1 f2 l k) {p : Addr} (hb : b ≠ p.block) (h1 : f1 ≠ p.block) (h2 : f2 ≠ p.block) (v : Value) : ScB (W.setCell p v) b f1 f2 l k :=
  ⟨h.s.far hb _, h.x1.far h1 _, h.x2.far h2 _, h.n1, h.n2⟩
theorem kd_more (z : BitVec 8) (t : List (BitVec 8)) : ((kd z = 1 ∨ kd z = 2) ∧ more z t = cnt isIn t) ∨ ((kd z = 0 ∨ kd z = 3) ∧ more z t = 0) := by
  unfold kd more
  cases isLet z <;> cases isDig z <;> cases isSgn z <;> simp

set_option maxRecDepth 100000 in
set_option maxHeartbeats 4000000 in
theorem token_any (l : List (BitVec 8)) (b f1 f2 k : Nat) (z : BitVec 8) (hz : l[k]? = some z) (hl : l.length ≤ 65536) (w : World) (hs : ScB w b f1 f2 l k) :
    Calls Try.prog 41 #[.pointer (some ⟨b, 0, none⟩)] w fun e w' => e = .returned (.agg #[.int .u8 (kd z), .string (bstr (z :: (l.drop (k + 1)).take (more z (l.drop (k + 1))))), .int .i64 k]) ∧ ScB w' b f1 f2 l (k + 1 + more z (l.drop (k + 1))) ∧ It b w w' := by
  have hK0 : Hid (∀ (W : World), ScB W b f1 f2 l k → _) := fun W h => kind_any l b f1 f2 k z hz W h
  have hklt : k < l.length := (List.getElem?_eq_some_iff.1 hz).1
  have hbl := hs.lt
  have hfl1 := hs.x1.lt
  have hfl2 := hs.x2.lt
  have hkm := kd_more z (l.drop (k + 1))
  have hdr := drop_at hz
  obtain ⟨q, hq⟩ : ∃ q, kd z = q := ⟨_, rfl⟩
  rw [hq] at hK0 hkm ⊢
  obtain ⟨mo, hmo⟩ : ∃ mo, more z (l.drop (k + 1)) = mo := ⟨_, rfl⟩
  rw [hmo] at hkm ⊢
  have hmf : mo ≤ (l.drop (k + 1)).length := by rw [← hmo]; exact more_le _ _
  rw [List.length_drop] at hmf
  have hSi : Hid (∀ W, ScB W b f1 f2 l (k + 1 + mo) → Calls Try.prog 49 #[.pointer (some ⟨b, 0, none⟩), .int .i64 k] W fun e w' => e = .returned (.string (bstr (z :: (l.drop (k + 1)).take mo))) ∧ Below W.heap.size W w') := fun W h => by
    have := since_any l b f1 f2 (k + 1 + mo) k (by omega) (by omega) W h
    rwa [hdr, show k + 1 + mo - k = mo + 1 by omega, List.take_succ_cons] at this
  have hPi : Hid (∀ W, ScB W b f1 f2 l (k + 1) → _) := fun W h => pass_in l b f1 f2 (k + 1) (by omega) hl W h
  obtain ⟨TX, hTX⟩ : ∃ TX, bstr (z :: (l.drop (k + 1)).take mo) = TX := ⟨_, rfl⟩
  rw [hTX] at hSi ⊢
  have hzt := zero_tok
  clear hmo hq hdr hTX
  go_enter Try.func41, Try.ntmps41
  go_wp2_with fail
  have hr0 : BoxN (w.alloc (.cells #[.int .u8 0, .string ⟨#[]⟩, .int .i64 0] 27)) w.heap.size 27 #[.int .u8 0, .string ⟨#[]⟩, .int .i64 0] := BoxN.new w _ _
  have hs0 : ScB (w.alloc (.cells #[.int .u8 0, .string ⟨#[]⟩, .int .i64 0] 27)) b f1 f2 l k := hs.keep ((Below.refl _ w).alloc (Nat.le_refl _) _)
  have hB0 : Below w.heap.size w (w.alloc (.cells #[.int .u8 0, .string ⟨#[]⟩, .int .i64 0] 27)) := (Below.refl _ w).alloc (Nat.le_refl _) _
  have hsz0 : (w.alloc (.cells #[.int .u8 0, .string ⟨#[]⟩, .int .i64 0] 27)).heap.size = w.heap.size + 1 := by simp
  generalize w.alloc (.cells #[.int .u8 0, .string ⟨#[]⟩, .int .i64 0] 27) = w0 at hr0 hs0 hB0 hsz0 ⊢
  refine wp_region_inv (Inv := fun L a W => ∃ b0 b1 b2 b3 b4 b5 b6 b7 b8 b9 : Bool, L = #[b0, b1, b2, b3, b4, b5, b6, b7, b8, b9] ∧ a = { tmps := #[.pointer (some ⟨b, 0, none⟩), undef, .pointer (some ⟨w.heap.size, 0, none⟩), (bif b8 then .pointer (some ⟨w.heap.size + 1, 0, none⟩) else undef), (bif b0 then .pointer (some ⟨b, 0, none⟩) else undef), (bif b1 then .int .u8 q else undef), (bif b2 then .pointer (some ⟨b, 0, none⟩) else undef), (bif b3 then .pointer (some ⟨b, 0, none⟩) else undef), (bif b4 then .pointer (some ⟨b, 0, none⟩) else undef), (bif b5 then .pointer (some ⟨b, 1, none⟩) else undef), (bif b6 then .int .i64 k else undef), (bif b7 then .agg #[.int .u8 q, .string ⟨#[]⟩, .int .i64 k] else undef), undef, undef, undef, undef, undef, undef, undef, undef, undef, undef, undef, undef, undef, undef, undef, undef, undef, undef, undef, undef, undef, undef, undef, undef, undef, undef, undef, undef, undef, undef, undef], defers := [] } ∧ (b9 = true → b8 = true) ∧ W.heap.size = (bif b8 then w.heap.size + 2 else w.heap.size + 1) ∧ ScB W b f1 f2 l k ∧ BoxN W w.heap.size 27 #[.int .u8 0, .string ⟨#[]⟩, .int .i64 0] ∧ (b8 = true → BoxN W (w.heap.size + 1) 27 (bif b9 then #[.int .u8 q, .string ⟨#[]⟩, .int .i64 k] else #[.int .u8 0, .string ⟨#[]⟩, .int .i64 0])) ∧ Below w.heap.size w W) (by kernel_rfl) (down_of (by decide +kernel)) ?start ?size ?done ?step
  case start => exact ⟨false, false, false, false, false, false, false, false, false, false, rfl, rfl, by simp, hsz0, hs0.drewN 1, hr0.drew, by simp, hB0.drew⟩
  case size =>
    rintro L a W ⟨b0, b1, b2, b3, b4, b5, b6, b7, b8, b9, rfl, -⟩
    rfl
  case step =>
    rintro L a W i o ⟨b0, b1, b2, b3, b4, b5, b6, b7, b8, b9, rfl, rfl, p9, hsz, hsc, hR, hT, hBW⟩ ho hl' hdep
    have hi : i < 10 := (Array.getElem?_eq_some_iff.1 ho).1
    have hi' : i = 0 ∨ i = 1 ∨ i = 2 ∨ i = 3 ∨ i = 4 ∨ i = 5 ∨ i = 6 ∨ i = 7 ∨ i = 8 ∨ i = 9 := by omega
    clear hi hr0 hs0 hB0 hsz0 hs hkm
    have c1 := hsc.c1
    have hbl' := hsc.lt
    replace p9 := Lib.hid p9
    replace hsz := Lib.hid hsz
    replace hsc := Lib.hid hsc
    replace hR := Lib.hid hR
    replace hT := Lib.hid hT
    replace hBW := Lib.hid hBW
    rcases hi' with rfl | rfl | rfl | rfl | rfl | rfl | rfl | rfl | rfl | rfl
    · cases ho
      obtain rfl : b0 = false := hl'
      clear hdep
      refine wpOp_step rfl (fun K hK => ?_)
      go_simp
      refine hK _ _ ?_; clear hK K
      exact ⟨true, b1, b2, b3, b4, b5, b6, b7, b8, b9, rfl, rfl, p9.out, hsz.out, hsc.out, hR.out, hT.out, hBW.out⟩
    · cases ho
      obtain rfl : b1 = false := hl'
      obtain rfl : b0 = true := hdep ⟨0, .data⟩ (by simp) rfl
      clear hdep
      refine wpOp_step rfl (fun K hK => ?_)
      simp only [cond_true]
      go_simp
      (with_reducible refine (hK0.out _ hsc.out).mono ?_); rintro e W2 ⟨rfl, m, rfl⟩
      refine hK _ _ ?_; clear hK K
      exact ⟨true, true, b2, b3, b4, b5, b6, b7, b8, b9, rfl, rfl, p9.out, hsz.out, hsc.out.drewN m, hR.out.drewN m, fun h => (hT.out h).drewN m, below_drewN hBW.out m⟩
    · cases ho
      obtain rfl : b2 = false := hl'
      clear hdep
      refine wpOp_step rfl (fun K hK => ?_)
      go_simp
      refine hK _ _ ?_; clear hK K
      exact ⟨b0, b1, true, b3, b4, b5, b6, b7, b8, b9, rfl, rfl, p9.out, hsz.out, hsc.out, hR.out, hT.out, hBW.out⟩
    · cases ho
      obtain rfl : b3 = false := hl'
      obtain rfl : b2 = true := hdep ⟨2, .data⟩ (by simp) rfl
      clear hdep
      refine wpOp_step rfl (fun K hK => ?_)
      simp only [cond_true]
      go_simp
      refine hK _ _ ?_; clear hK K
      exact ⟨b0, b1, true, true, b4, b5, b6, b7, b8, b9, rfl, rfl, p9.out, hsz.out, hsc.out, hR.out, hT.out, hBW.out⟩
    · cases ho
      obtain rfl : b4 = false := hl'
      obtain rfl : b3 = true := hdep ⟨3, .data⟩ (by simp) rfl
      clear hdep
      refine wpOp_step rfl (fun K hK => ?_)
      simp only [cond_true]
      go_simp
      refine hK _ _ ?_; clear hK K
      exact ⟨b0, b1, b2, true, true, b5, b6, b7, b8, b9, rfl, rfl, p9.out, hsz.out, hsc.out, hR.out, hT.out, hBW.out⟩
    · cases ho
      obtain rfl : b5 = false := hl'
      obtain rfl : b4 = true := hdep ⟨4, .data⟩ (by simp) rfl
      clear hdep
      refine wpOp_step rfl (fun K hK => ?_)
      simp only [cond_true]
      go_simp
      refine hK _ _ ?_; clear hK K
      exact ⟨b0, b1, b2, b3, true, true, b6, b7, b8, b9, rfl, rfl, p9.out, hsz.out, hsc.out, hR.out, hT.out, hBW.out⟩
    · cases ho
      obtain rfl : b6 = false := hl'
      obtain rfl : b5 = true := hdep ⟨5, .data⟩ (by simp) rfl
      clear hdep
      refine wpOp_step rfl (fun K hK => ?_)
      simp only [cond_true]
      go_simp
      refine hK _ _ ?_; clear hK K
      exact ⟨b0, b1, b2, b3, b4, true, true, b7, b8, b9, rfl, rfl, p9.out, hsz.out, hsc.out, hR.out, hT.out, hBW.out⟩
    · cases ho
      obtain rfl : b7 = false := hl'
      obtain rfl : b1 = true := hdep ⟨1, .data⟩ (by simp) rfl
      obtain rfl : b6 = true := hdep ⟨6, .data⟩ (by simp) rfl
      clear hdep
      refine wpOp_step rfl (fun K hK => ?_)
      simp only [cond_true]
      go_simp
      refine hK _ _ ?_; clear hK K
      exact ⟨b0, true, b2, b3, b4, b5, true, true, b8, b9, rfl, rfl, p9.out, hsz.out, hsc.out, hR.out, hT.out, hBW.out⟩
    · cases ho
      obtain rfl : b8 = false := hl'
      clear hdep
      obtain rfl : b9 = false := by cases b9 with | false => rfl | true => exact absurd (p9.out rfl) (by simp)
      refine wpOp_step rfl (fun K hK => ?_)
      go_simp
      refine hK _ _ ?_; clear hK K
      have hsz1 : W.heap.size = w.heap.size + 1 := hsz.out
      have hnew := BoxN.new W 27 #[.int .u8 0, .string ⟨#[]⟩, .int .i64 0]
      rw [hsz1] at hnew
      exact ⟨b0, b1, b2, b3, b4, b5, b6, b7, true, false, rfl, by rw [hsz1]; rfl, by simp, by rw [World.size_alloc, hsz1]; rfl, hsc.out.keep ((Below.refl _ W).alloc (Nat.le_refl _) _), hR.out.alloc _, fun _ => hnew, hBW.out.alloc (by omega) _⟩
    · cases ho
      obtain rfl : b9 = false := hl'
      obtain rfl : b8 = true := hdep ⟨8, .data⟩ (by simp) rfl
      obtain rfl : b7 = true := hdep ⟨7, .data⟩ (by simp) rfl
      clear hdep
      refine wpOp_step rfl (fun K hK => ?_)
      refine step_store_row (by rfl) 27 _ _ rfl (w.heap.size + 1) #[.int .u8 q, .string ⟨#[]⟩, .int .i64 k] rfl rfl 27 #[.int .u8 0, .string ⟨#[]⟩, .int .i64 0] (hT.out rfl) info_tok rfl (by simp [Value.oneCell']) ?_
      refine hK _ _ ?_; clear hK K
      exact ⟨b0, b1, b2, b3, b4, b5, b6, true, true, true, rfl, rfl, fun _ => rfl, by rw [size_setRow]; exact hsz.out, hsc.out.row (by omega) (by omega) (by omega) _, hR.out.farRow (by omega) _, fun _ => (hT.out rfl).setRow _, below_setRow hBW.out (by omega) _⟩
  case done =>
    rintro L a W ⟨q0, q1, q2, q3, q4, q5, q6, q7, q8, q9, rfl, rfl, -, hsz, hsc, hR, hT, hBW⟩ hall
    obtain rfl : q0 = true := hall 0 (by decide)
    obtain rfl : q1 = true := hall 1 (by decide)
    obtain rfl : q2 = true := hall 2 (by decide)
    obtain rfl : q3 = true := hall 3 (by decide)
    obtain rfl : q4 = true := hall 4 (by decide)
    obtain rfl : q5 = true := hall 5 (by decide)
    obtain rfl : q6 = true := hall 6 (by decide)
    obtain rfl : q7 = true := hall 7 (by decide)
    obtain rfl : q8 = true := hall 8 (by decide)
    obtain rfl : q9 = true := hall 9 (by decide)
    simp only [cond_true] at hsz hT ⊢
    replace hT := (by simpa using hT : BoxN W (w.heap.size + 1) 27 #[.int .u8 q, .string ⟨#[]⟩, .int .i64 k])
    clear hall hr0 hs0 hB0 hsz0
    have hI : It b w W := It.of_below hBW (by omega)
    have c1 := hsc.c1
    have fz := hsc.fz
    have hbl' := hsc.lt
    have hsc2 := hsc.move (k + 1)
    have hR2 := hR.far (p := ⟨b, 1, none⟩) (by simp; omega) (.int .i64 ((k + 1 : Nat) : Int))
    have hT2 := hT.far (p := ⟨b, 1, none⟩) (by simp; omega) (.int .i64 ((k + 1 : Nat) : Int))
    have hI2 := hI.set 1 (.int .i64 ((k + 1 : Nat) : Int))
    simp only [Int.natCast_add, Int.natCast_one] at hsc2 hR2 hT2 hI2
    clear hsc hR hT hI hBW
    have d1 := hT2.cell 0
    have hTl := hT2.lt
    simp at d1
    obtain ⟨yb, hyb⟩ : ∃ yb, decide (q = 1 ∨ q = 2) = yb := ⟨_, rfl⟩
    go_upto_region 3 with fail
    go_cut [28] from 21 to 28 (fun s28 wx => s28 = .bool yb ∧ wx = W.setCell ⟨b, 1, none⟩ (.int .i64 (k + 1)))
    case first =>
      rcases (by omega : q = 1 ∨ q = 2 ∨ q = 0 ∨ q = 3) with rfl | rfl | rfl | rfl
      all_goals
        subst hyb
        go_wp2_with fail
        go_meet
        exact ⟨rfl, rfl⟩
    case rest =>
    obtain ⟨rfl, rfl⟩ := hcut
    go_upto_if 28 with fail
    go_cut [] from 29 to 34 (fun wx => ScB wx b f1 f2 l (k + 1 + mo) ∧ BoxN wx w.heap.size 27 #[.int .u8 0, .string ⟨#[]⟩, .int .i64 0] ∧ BoxN wx (w.heap.size + 1) 27 #[.int .u8 q, .string ⟨#[]⟩, .int .i64 k] ∧ It b w wx)
    case first =>
      cases yb with
      | true =>
        have hm : mo = cnt isIn (l.drop (k + 1)) := by
          have := of_decide_eq_true hyb
          rcases hkm with ⟨_, h⟩ | ⟨h, _⟩
          · exact h
          · omega
        clear hyb
        go_wp2_with fail
        (with_reducible refine (hPi.out _ hsc2).mono ?_); rintro e w3 ⟨rfl, hs3, ht3⟩
        rw [← hm] at hs3
        have hR3 := hR2.tn ht3 (by omega)
        have hT3 := hT2.tn ht3 (by omega)
        have hI3 := hI2.trans (It.tn ht3)
        clear hsc2 hR2 hT2 hI2 ht3
        go_wp2_with fail
        go_meet
        exact ⟨hs3, hR3, hT3, hI3⟩
      | false =>
        have hm : mo = 0 := by
          have := of_decide_eq_false hyb
          rcases hkm with ⟨h, _⟩ | ⟨_, h⟩
          · exact absurd h this
          · exact h
        clear hyb
        subst hm
        go_wp2_with fail
        go_meet
        exact ⟨hsc2, hR2, hT2, hI2⟩
    case rest =>
    clear hsc2 hR2 hT2 hI2
    obtain ⟨hs4, hR4, hT4, hI4⟩ := hcut
    go_upto_region 5 with fail
    refine wp_region_inv (Inv := fun L a W => ∃ b0 b1 b2 b3 b4 b5 b6 b7 : Bool, L = #[b0, b1, b2, b3, b4, b5, b6, b7] ∧ a = { tmps := #[.pointer (some ⟨b, 0, none⟩), undef, .pointer (some ⟨w.heap.size, 0, none⟩), .pointer (some ⟨w.heap.size + 1, 0, none⟩), .pointer (some ⟨b, 0, none⟩), .int .u8 q, .pointer (some ⟨b, 0, none⟩), .pointer (some ⟨b, 0, none⟩), .pointer (some ⟨b, 0, none⟩), .pointer (some ⟨b, 1, none⟩), .int .i64 k, .agg #[.int .u8 q, .string ⟨#[]⟩, .int .i64 k], .pointer (some ⟨b, 0, none⟩), .pointer (some ⟨b, 0, none⟩), .pointer (some ⟨b, 0, none⟩), .pointer (some ⟨b, 1, none⟩), .int .i64 k, .int .i64 (k + 1), .pointer (some ⟨b, 0, none⟩), .pointer (some ⟨b, 0, none⟩), .pointer (some ⟨b, 1, none⟩), u21, u22, u23, u24, u25, u26, u27, .bool yb, u29, u30, u31, u32, u33, u34, (bif b0 then .pointer (some ⟨b, 0, none⟩) else undef), (bif b1 then .pointer (some ⟨b, 0, none⟩) else undef), (bif b2 then .pointer (some ⟨b, 0, none⟩) else undef), (bif b3 then .pointer (some ⟨w.heap.size + 1, 2, none⟩) else undef), (bif b4 then .int .i64 k else undef), (bif b5 then .string TX else undef), (bif b6 then .pointer (some ⟨w.heap.size + 1, 1, none⟩) else undef), undef], defers := [] } ∧ ScB W b f1 f2 l (k + 1 + mo) ∧ BoxN W w.heap.size 27 #[.int .u8 0, .string ⟨#[]⟩, .int .i64 0] ∧ BoxN W (w.heap.size + 1) 27 (bif b7 then #[.int .u8 q, .string TX, .int .i64 k] else #[.int .u8 q, .string ⟨#[]⟩, .int .i64 k]) ∧ It b w W) (by kernel_rfl) (down_of (by decide +kernel)) ?start ?size ?done ?step
    case start => exact ⟨false, false, false, false, false, false, false, false, rfl, rfl, hs4.drewN 1, hR4.drew, hT4.drew, hI4.drewN 1⟩
    case size =>
      rintro L a W ⟨b0, b1, b2, b3, b4, b5, b6, b7, rfl, -⟩
      rfl
    case step =>
      rintro L a W i o ⟨b0, b1, b2, b3, b4, b5, b6, b7, rfl, rfl, hsc, hR, hT, hIW⟩ ho hl' hdep
      have hi : i < 8 := (Array.getElem?_eq_some_iff.1 ho).1
      have hi' : i = 0 ∨ i = 1 ∨ i = 2 ∨ i = 3 ∨ i = 4 ∨ i = 5 ∨ i = 6 ∨ i = 7 := by omega
      clear hi hs4 hR4 hT4 hI4 hs hkm
      have c2 : W.cell? ⟨w.heap.size + 1, 2, none⟩ = some (.int .i64 k) := by rw [hT.cell]; cases b7 <;> rfl
      obtain ⟨v1, c3⟩ : ∃ v, W.cell? ⟨w.heap.size + 1, 1, none⟩ = some v := by
        rw [hT.cell]; cases b7
        · exact ⟨_, rfl⟩
        · exact ⟨_, rfl⟩
      have fz1 := hT.frozen 1
      have hTl := hT.lt
      replace hsc := Lib.hid hsc
      replace hR := Lib.hid hR
      replace hT := Lib.hid hT
      replace hIW := Lib.hid hIW
      rcases hi' with rfl | rfl | rfl | rfl | rfl | rfl | rfl | rfl
      · cases ho
        obtain rfl : b0 = false := hl'
        clear hdep
        refine wpOp_step rfl (fun K hK => ?_)
        go_simp
        refine hK _ _ ?_; clear hK K
        exact ⟨true, b1, b2, b3, b4, b5, b6, b7, rfl, rfl, hsc.out, hR.out, hT.out, hIW.out⟩
      · cases ho
        obtain rfl : b1 = false := hl'
        obtain rfl : b0 = true := hdep ⟨0, .data⟩ (by simp) rfl
        clear hdep
        refine wpOp_step rfl (fun K hK => ?_)
        simp only [cond_true]
        go_simp
        refine hK _ _ ?_; clear hK K
        exact ⟨true, true, b2, b3, b4, b5, b6, b7, rfl, rfl, hsc.out, hR.out, hT.out, hIW.out⟩
      · cases ho
        obtain rfl : b2 = false := hl'
        obtain rfl : b1 = true := hdep ⟨1, .data⟩ (by simp) rfl
        clear hdep
        refine wpOp_step rfl (fun K hK => ?_)
        simp only [cond_true]
        go_simp
        refine hK _ _ ?_; clear hK K
        exact ⟨b0, true, true, b3, b4, b5, b6, b7, rfl, rfl, hsc.out, hR.out, hT.out, hIW.out⟩
      · cases ho
        obtain rfl : b3 = false := hl'
        clear hdep
        refine wpOp_step rfl (fun K hK => ?_)
        go_simp
        refine hK _ _ ?_; clear hK K
        exact ⟨b0, b1, b2, true, b4, b5, b6, b7, rfl, rfl, hsc.out, hR.out, hT.out, hIW.out⟩
      · cases ho
        obtain rfl : b4 = false := hl'
        obtain rfl : b3 = true := hdep ⟨3, .data⟩ (by simp) rfl
        clear hdep
        refine wpOp_step rfl (fun K hK => ?_)
        simp only [cond_true]
        go_simp
        refine hK _ _ ?_; clear hK K
        exact ⟨b0, b1, b2, true, true, b5, b6, b7, rfl, rfl, hsc.out, hR.out, hT.out, hIW.out⟩
      · cases ho
        obtain rfl : b5 = false := hl'
        obtain rfl : b2 = true := hdep ⟨2, .data⟩ (by simp) rfl
        obtain rfl : b4 = true := hdep ⟨4, .data⟩ (by simp) rfl
        clear hdep
        refine wpOp_step rfl (fun K hK => ?_)
        simp only [cond_true]
        go_simp
        (with_reducible refine (hSi.out _ hsc.out).mono ?_); rintro e W2 ⟨rfl, hb2⟩
        refine hK _ _ ?_; clear hK K
        exact ⟨b0, b1, true, b3, true, true, b6, b7, rfl, rfl, hsc.out.keep hb2, hR.out.keep hb2, hT.out.keep hb2, hIW.out.trans (It.of_below hb2 (by have := hsc.out.lt; omega))⟩
      · cases ho
        obtain rfl : b6 = false := hl'
        clear hdep
        refine wpOp_step rfl (fun K hK => ?_)
        go_simp
        refine hK _ _ ?_; clear hK K
        exact ⟨b0, b1, b2, b3, b4, b5, true, b7, rfl, rfl, hsc.out, hR.out, hT.out, hIW.out⟩
      · cases ho
        obtain rfl : b7 = false := hl'
        obtain rfl : b6 = true := hdep ⟨6, .data⟩ (by simp) rfl
        obtain rfl : b5 = true := hdep ⟨5, .data⟩ (by simp) rfl
        clear hdep
        refine wpOp_step rfl (fun K hK => ?_)
        simp only [cond_true]
        go_simp
        refine hK _ _ ?_; clear hK K
        exact ⟨b0, b1, b2, b3, b4, true, true, true, rfl, rfl, hsc.out.far (by simp; omega) (by simp; omega) (by simp; omega) _, hR.out.far (by simp) _, hT.out.set1 1 (.string TX), hIW.out.own (p := ⟨w.heap.size + 1, 1, none⟩) (by omega) (by simp) _⟩
    case done =>
      rintro L a W ⟨q0, q1, q2, q3, q4, q5, q6, q7, rfl, rfl, hsc, hR, hT, hIW⟩ hall
      obtain rfl : q0 = true := hall 0 (by decide)
      obtain rfl : q1 = true := hall 1 (by decide)
      obtain rfl : q2 = true := hall 2 (by decide)
      obtain rfl : q3 = true := hall 3 (by decide)
      obtain rfl : q4 = true := hall 4 (by decide)
      obtain rfl : q5 = true := hall 5 (by decide)
      obtain rfl : q6 = true := hall 6 (by decide)
      obtain rfl : q7 = true := hall 7 (by decide)
      simp only [cond_true] at hT ⊢
      clear hall hs4 hR4 hT4 hI4
      have b0' : _ = some (Obj.cells #[.int .u8 0, .string ⟨#[]⟩, .int .i64 0] 27 (0, 0)) := hR
      have b1' : _ = some (Obj.cells #[.int .u8 q, .string TX, .int .i64 k] 27 (0, 0)) := hT
      have b2' : _ = some (Obj.cells #[.int .u8 q, .string TX, .int .i64 k] 27 (0, 0)) := hR.setRow #[.int .u8 q, .string TX, .int .i64 k]
      have hbl := hsc.lt
      have HS := Lib.hid (hsc.row (g := w.heap.size) (by omega) (by omega) (by omega) #[.int .u8 q, .string TX, .int .i64 k])
      have HI := Lib.hid hIW
      clear hsc hR hT hIW
      go_wp2_with (first | (refine wpList_load_row rfl 27 _ rfl (w.heap.size + 1) rfl _ #[.int .u8 q, .string TX, .int .i64 k] _ _ b1' Try.underlying27 rfl info_tok ?_) | (refine wpList_store_rowTo rfl 27 _ _ rfl rfl w.heap.size #[.int .u8 q, .string TX, .int .i64 k] rfl rfl _ #[.int .u8 0, .string ⟨#[]⟩, .int .i64 0] b0' info_tok rfl (by simp [Value.oneCell']) ?_))
      exact bodyPost_ret (v := .agg #[.int .u8 q, .string TX, .int .i64 k]) (results_cell_row Try.results41 _ _ w.heap.size _ #[.int .u8 q, .string TX, .int .i64 k] _ _ rfl b2' Try.underlying27 rfl info_tok) rfl ⟨rfl, HS.out, HI.out.row (Nat.le_refl _) _⟩
end Go.Proofs.Ythjpcafnbniafaa
