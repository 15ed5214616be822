/- Merged texts: TTot. -/
import Derived.Test.YtbncfknjgldcbaaGreatM8
import Derived.Test.YtbncfknjgldcbaaGreatM28
import Derived.Test.YtbncfknjgldcbaaGreatM21
import Derived.Test.YtbncfknjgldcbaaGreatM14
/- The reference's Total. -/
namespace Go.Proofs.YtbncfknjgldcbaaGreat
open Go.RowKit Go.Joins Go.Shelf Go.Sort Num

set_option maxRecDepth 100000 in
set_option maxHeartbeats 4000000 in
theorem rtotal_any (A : Option Addr) (cap : Nat) (cs : List (List Buck)) (t : Rat) (hl : cs.length ≤ 1048576) (ht : Fit t) (ht0 : 0 ≤ t) (w : World) (hI : isL A cs w) :
    Calls Tryz.prog 113 #[.slice A cs.length cap, .agg #[.int .i64 t.num, .int .i64 t.den]] w fun e w' => e = .returned (ratV (numV (totO cs t))) ∧ Below w.heap.size w w' := by
  obtain ⟨hok, vs, hvl, hv, hvc⟩ := hI
  have HAt : Hid (∀ (j : Nat) (c : List Buck) (v : Value), vs[j]? = some v → cs[j]? = some c → (∃ (B : Option Addr) (cb : Nat × Nat), v = .slice B cb.1 cb.2 ∧ ∀ W : World, Below w.heap.size w W → Calls Tryz.prog 9 #[.slice B cb.1 cb.2, .agg #[.int .i64 t.num, .int .i64 t.den]] W fun e w' => e = .returned (ratV (numV (atO t c))) ∧ Below W.heap.size W w')) := fun j c v h1 h2 => by
    obtain ⟨B, cb, rfl, hi⟩ := hvc j v c h1 h2
    obtain ⟨k1, k2⟩ := hok c (List.mem_of_getElem? h2)
    exact ⟨B, (c.length, cb), rfl, fun W hW => by rw [← atV_o]; exact Ref.at_ok B cb c t k1 k2 ht ht0 W (cl_isC B cb c w W hi hW)⟩
  have HAd : Hid (∀ (x y : Rat) (W : World), Fit x → Fit y → Calls Tryz.prog 60 #[.int .i64 0, .agg #[.int .i64 x.num, .int .i64 x.den], .agg #[.int .i64 y.num, .int .i64 y.den]] W fun e w' => e = .returned (ratV (numV (if Fit (x + y) then some (x + y) else none))) ∧ Below W.heap.size W w') := fun x y W hx hy => by
    have := Ref.add_r hx hy W
    rw [ofR_num] at this
    exact this
  have hfit : Hid (∀ c ∈ cs, fitO (atO t c)) := fun c hc => atO_fit (by have := (hok c hc).1; intro h; subst h; simp at this)
  have hv' := Lib.hid hv
  have hB0 := Lib.hid ((((Below.refl w.heap.size w).alloc (Nat.le_refl _) (.cells #[.int .i64 t.num, .int .i64 t.den] 25)).alloc (by simp) (.cells #[.int .i64 0, .int .i64 0] 25)).alloc (by simp; omega) (.cells #[.int .i64 0, .int .i64 1] 25))
  have bT := Lib.hid (((BoxN.new w 25 #[.int .i64 t.num, .int .i64 t.den]).alloc (.cells #[.int .i64 0, .int .i64 0] 25)).alloc (.cells #[.int .i64 0, .int .i64 1] 25))
  have bR : BoxN (((w.alloc (.cells #[.int .i64 t.num, .int .i64 t.den] 25)).alloc (.cells #[.int .i64 0, .int .i64 0] 25)).alloc (.cells #[.int .i64 0, .int .i64 1] 25)) (w.heap.size + 1) 25 #[.int .i64 0, .int .i64 0] := by
    have := (BoxN.new (w.alloc (.cells #[.int .i64 t.num, .int .i64 t.den] 25)) 25 #[.int .i64 0, .int .i64 0]).alloc (.cells #[.int .i64 0, .int .i64 1] 25)
    rwa [World.size_alloc] at this
  have bS : BoxN (((w.alloc (.cells #[.int .i64 t.num, .int .i64 t.den] 25)).alloc (.cells #[.int .i64 0, .int .i64 0] 25)).alloc (.cells #[.int .i64 0, .int .i64 1] 25)) (w.heap.size + 1 + 1) 25 #[.int .i64 0, .int .i64 1] := by
    have := BoxN.new ((w.alloc (.cells #[.int .i64 t.num, .int .i64 t.den] 25)).alloc (.cells #[.int .i64 0, .int .i64 0] 25)) 25 #[.int .i64 0, .int .i64 1]
    rwa [World.size_alloc, World.size_alloc] at this
  replace bR := Lib.hid bR
  replace bS := Lib.hid bS
  obtain ⟨res, hres⟩ : ∃ r, numV (totO cs t) = r := ⟨_, rfl⟩
  rw [hres]
  unfold totO at hres
  have Hres := Lib.hid hres
  generalize t.num = tn at *
  generalize (t.den : Int) = td at *
  clear hok hv hvc ht ht0 hres
  go_enter Tryz.func113, Tryz.ntmps113
  go_wp2_with fail
  go_loopw [7] (fun i wr => ∃ (k : Nat) (s : Rat), k ≤ cs.length ∧ i = .int .i64 ↑k ∧ Hid (sumO ((cs.map (atO t)).take k) = some s) ∧ Hid (Fit s) ∧ Hid (BoxN wr w.heap.size 25 #[.int .i64 tn, .int .i64 td]) ∧ Hid (BoxN wr (w.heap.size + 1) 25 #[.int .i64 0, .int .i64 0]) ∧ Hid (BoxN wr (w.heap.size + 1 + 1) 25 #[.int .i64 s.num, .int .i64 s.den]) ∧ Hid (Below w.heap.size w wr))
    (fun i _ => cs.length - (intOf i).toNat)
  case atStart => exact ⟨0, 0, Nat.zero_le _, rfl, rfl, ⟨by decide, by decide⟩, bT.out, bR.out, bS.out, hB0.out⟩
  case round =>
    obtain ⟨k, s, hk, rfl, hs, hfs, hT, hR, hS, hB⟩ := hrel
    clear bT bR bS hB0
    by_cases hlt : k < cs.length
    · have hd : decide ((k : Int) < cs.length) = true := decide_eq_true (by omega)
      have hc : cs[k]? = some (cs[k]'hlt) := List.getElem?_eq_getElem hlt
      obtain ⟨c, hce⟩ : ∃ c, cs[k]'hlt = c := ⟨_, rfl⟩
      rw [hce] at hc
      have hvk : vs[k]? = some (vs[k]'(by omega)) := List.getElem?_eq_getElem _
      obtain ⟨v, hve⟩ : ∃ v, vs[k]'(by omega) = v := ⟨_, rfl⟩
      rw [hve] at hvk
      obtain ⟨Bc, ⟨lc, cc⟩, rfl, HAx⟩ := HAt.out k c v hvk hc
      have HAx := Lib.hid HAx
      obtain ⟨b, off, rfl, hb, hrow⟩ := (cl_isV A vs w _ hv'.out hB.out) (by intro e; rw [e] at hvk; simp at hvk)
      have y0 := hrow k _ hvk
      have e0 := hT.out.cell 0
      have e1 := hT.out.cell 1
      have lT := hT.out.lt
      have hfc := Lib.hid (hfit.out c (List.mem_of_getElem? hc))
      have hmk : Hid ((cs.map (atO t)).take (k + 1) = (cs.map (atO t)).take k ++ [atO t c]) := take_succ' (by rw [List.getElem?_map, hc]; rfl)
      have hsn : Hid (sumO ((cs.map (atO t)).take (k + 1)) = addO (some s) (atO t c)) := by unfold Hid; rw [hmk.out, sumO_snoc, hs.out]
      have hno : Hid (addO (some s) (atO t c) = none → res = (0, 0, 3)) := fun h => by
        rw [← Hres.out, sumO_none (k := k + 1) (by rw [hsn.out]; exact h)]; rfl
      obtain ⟨o, ho⟩ : ∃ o, atO t c = o := ⟨_, rfl⟩
      replace HAx := HAx.out
      rw [ho] at HAx hfc hsn hno
      obtain ⟨⟨vn, vd, ve⟩, hnv⟩ : ∃ t, numV o = t := ⟨_, rfl⟩
      rw [hnv] at HAx
      simp only [ratV] at HAx
      replace HAx := Lib.hid HAx
      have Hnv := Lib.hid hnv
      clear hc hvk hce hve hrow ho hnv hmk hs
      go_wp2_with fail
      refine wp_region_inv (Inv := fun Lb a W => ∃ (b0 b1 b2 b3 b4 b5 b6 b7 b8 b9 b10 b11 : Bool) (G9 : Nat), Lb = #[b0, b1, b2, b3, b4, b5, b6, b7, b8, b9, b10, b11] ∧ a = { tmps := #[Value.slice (some ⟨b, off, none⟩) cs.length cap, Value.agg #[Value.int IntKind.i64 tn, Value.int IntKind.i64 td], undef, Value.pointer (some ⟨w.heap.size, 0, none⟩), Value.pointer (some ⟨w.heap.size + 1, 0, none⟩), u5, Value.pointer (some ⟨w.heap.size + 1 + 1, 0, none⟩), Value.int IntKind.i64 ↑k, (bif b9 then .pointer (some ⟨G9, 0, none⟩) else u8), (bif b11 then .int .i64 ve else u9), Value.agg #[Value.int IntKind.i64 0, Value.int IntKind.i64 1], Value.int IntKind.i64 ↑k, Value.slice (some ⟨b, off, none⟩) cs.length cap, Value.int IntKind.i64 ↑cs.length, Value.bool true, u15, u16, (bif b6 then .tuple #[.agg #[.int .i64 vn, .int .i64 vd], .int .i64 ve] else u17), (bif b0 then .slice (some ⟨b, off, none⟩) cs.length cap else u18), (bif b1 then .int .i64 (k : Nat) else u19), (bif b2 then .pointer (some ⟨b, off + k, none⟩) else u20), (bif b3 then .slice Bc lc cc else u21), (bif b4 then .agg #[.int .i64 tn, .int .i64 td] else u22), (bif b5 then .tuple #[.agg #[.int .i64 vn, .int .i64 vd], .int .i64 ve] else u23), (bif b7 then .agg #[.int .i64 vn, .int .i64 vd] else u24), (bif b8 then .int .i64 ve else u25), u26, u27, u28, u29, u30, u31, u32, u33, u34, u35, u36, u37, u38, u39, undef], defers := [] } ∧ (b10 = true → b9 = true) ∧ Below wr.heap.size wr W ∧ (b9 = true → wr.heap.size ≤ G9 ∧ G9 < W.heap.size ∧ (b10 = false → BoxN W G9 25 #[.int .i64 0, .int .i64 0]) ∧ (b10 = true → BoxN W G9 25 #[.int .i64 vn, .int .i64 vd]))) (by kernel_rfl) (down_of (by decide +kernel)) ?start ?size ?done ?step
      case start => exact ⟨false, false, false, false, false, false, false, false, false, false, false, false, 0, rfl, rfl, by simp, (Below.refl _ _).drew, by simp⟩
      case size =>
        rintro Lb aR W ⟨b0, b1, b2, b3, b4, b5, b6, b7, b8, b9, b10, b11, G9, rfl, -⟩
        rfl
      case step =>
        rintro Lb aR W i o ⟨b0, b1, b2, b3, b4, b5, b6, b7, b8, b9, b10, b11, G9, rfl, rfl, p10, f0, f1⟩ ho hl' hdep
        have hi' : i < 12 := (Array.getElem?_eq_some_iff.1 ho).1
        have hi2 : i = 0 ∨ i = 1 ∨ i = 2 ∨ i = 3 ∨ i = 4 ∨ i = 5 ∨ i = 6 ∨ i = 7 ∨ i = 8 ∨ i = 9 ∨ i = 10 ∨ i = 11 := by omega
        clear hi'
        replace p10 := Lib.hid p10
        replace f0 := Lib.hid f0
        replace f1 := Lib.hid f1
        rcases hi2 with rfl | rfl | rfl | rfl | rfl | rfl | rfl | rfl | rfl | rfl | rfl | rfl
        · cases ho
          obtain rfl : b0 = false := hl'
          clear hdep
          refine wpOp_step rfl (fun K hK => ?_)
          go_simp
          refine hK _ _ ?_; clear hK K
          exact ⟨true, b1, b2, b3, b4, b5, b6, b7, b8, b9, b10, b11, G9, rfl, rfl, p10.out, f0.out, f1.out⟩
        · cases ho
          obtain rfl : b1 = false := hl'
          clear hdep
          refine wpOp_step rfl (fun K hK => ?_)
          go_simp
          refine hK _ _ ?_; clear hK K
          exact ⟨b0, true, b2, b3, b4, b5, b6, b7, b8, b9, b10, b11, G9, rfl, rfl, p10.out, f0.out, f1.out⟩
        · cases ho
          obtain rfl : b2 = false := hl'
          obtain rfl : b0 = true := hdep ⟨0, .data⟩ (by simp) rfl
          obtain rfl : b1 = true := hdep ⟨1, .data⟩ (by simp) rfl
          clear hdep
          refine wpOp_step rfl (fun K hK => ?_)
          simp only [cond_true]
          go_simp
          refine hK _ _ ?_; clear hK K
          exact ⟨true, true, true, b3, b4, b5, b6, b7, b8, b9, b10, b11, G9, rfl, rfl, p10.out, f0.out, f1.out⟩
        · cases ho
          obtain rfl : b3 = false := hl'
          obtain rfl : b2 = true := hdep ⟨2, .data⟩ (by simp) rfl
          clear hdep
          have c0 := (f0.out.cell (hb)).trans y0
          refine wpOp_step rfl (fun K hK => ?_)
          simp only [cond_true]
          go_simp
          refine hK _ _ ?_; clear hK K
          exact ⟨b0, b1, true, true, b4, b5, b6, b7, b8, b9, b10, b11, G9, rfl, rfl, p10.out, f0.out, f1.out⟩
        · cases ho
          obtain rfl : b4 = false := hl'
          clear hdep
          have c0 := (f0.out.cell (lT)).trans e0
          have c1 := (f0.out.cell (lT)).trans e1
          refine wpOp_step rfl (fun K hK => ?_)
          go_simp
          refine hK _ _ ?_; clear hK K
          exact ⟨b0, b1, b2, b3, true, b5, b6, b7, b8, b9, b10, b11, G9, rfl, rfl, p10.out, f0.out, f1.out⟩
        · cases ho
          obtain rfl : b5 = false := hl'
          obtain rfl : b3 = true := hdep ⟨3, .data⟩ (by simp) rfl
          obtain rfl : b4 = true := hdep ⟨4, .data⟩ (by simp) rfl
          clear hdep
          refine wpOp_step rfl (fun K hK => ?_)
          simp only [cond_true]
          go_simp
          (with_reducible refine (HAx.out _ (hB.out.trans (f0.out.mono hB.out.size))).mono ?_); rintro e w4 ⟨rfl, hb⟩
          refine hK _ _ ?_; clear hK K
          exact ⟨b0, b1, b2, true, true, true, b6, b7, b8, b9, b10, b11, G9, rfl, rfl, p10.out, f0.out.trans (hb.mono f0.out.size), fun h => ⟨(f1.out h).1, Nat.lt_of_lt_of_le (f1.out h).2.1 hb.size, fun e => ((f1.out h).2.2.1 e).below hb (f1.out h).2.1, fun e => ((f1.out h).2.2.2 e).below hb (f1.out h).2.1⟩⟩
        · cases ho
          obtain rfl : b6 = false := hl'
          obtain rfl : b5 = true := hdep ⟨5, .data⟩ (by simp) rfl
          clear hdep
          refine wpOp_step rfl (fun K hK => ?_)
          simp only [cond_true]
          go_simp
          refine hK _ _ ?_; clear hK K
          exact ⟨b0, b1, b2, b3, b4, true, true, b7, b8, b9, b10, b11, G9, rfl, rfl, p10.out, f0.out, f1.out⟩
        · cases ho
          obtain rfl : b7 = false := hl'
          obtain rfl : b6 = true := hdep ⟨6, .data⟩ (by simp) rfl
          clear hdep
          refine wpOp_step rfl (fun K hK => ?_)
          simp only [cond_true]
          go_simp
          refine hK _ _ ?_; clear hK K
          exact ⟨b0, b1, b2, b3, b4, b5, true, true, b8, b9, b10, b11, G9, rfl, rfl, p10.out, f0.out, f1.out⟩
        · cases ho
          obtain rfl : b8 = false := hl'
          obtain rfl : b6 = true := hdep ⟨6, .data⟩ (by simp) rfl
          clear hdep
          refine wpOp_step rfl (fun K hK => ?_)
          simp only [cond_true]
          go_simp
          refine hK _ _ ?_; clear hK K
          exact ⟨b0, b1, b2, b3, b4, b5, true, b7, true, b9, b10, b11, G9, rfl, rfl, p10.out, f0.out, f1.out⟩
        · cases ho
          obtain rfl : b9 = false := hl'
          clear hdep
          obtain rfl : b10 = false := by cases b10 with | false => rfl | true => exact absurd (p10.out rfl) (by simp)
          refine wpOp_step rfl (fun K hK => ?_)
          go_simp
          refine hK _ _ ?_; clear hK K
          exact ⟨b0, b1, b2, b3, b4, b5, b6, b7, b8, true, false, b11, W.heap.size, rfl, rfl, by simp, f0.out.alloc f0.out.size _, fun _ => ⟨f0.out.size, by simp, fun _ => BoxN.new W 25 #[.int .i64 0, .int .i64 0], by simp⟩⟩
        · cases ho
          obtain rfl : b10 = false := hl'
          obtain rfl : b9 = true := hdep ⟨9, .data⟩ (by simp) rfl
          obtain rfl : b7 = true := hdep ⟨7, .data⟩ (by simp) rfl
          clear hdep
          obtain ⟨hle, hlt, hbz, -⟩ := f1.out rfl
          have bS := hbz rfl
          clear hbz
          have z0 := bS.cell 0
          have y0 := bS.frozen 0
          have z1 := bS.cell 1
          have y1 := bS.frozen 1
          refine wpOp_step rfl (fun K hK => ?_)
          simp only [cond_true]
          go_simp
          refine hK _ _ ?_; clear hK K
          exact ⟨b0, b1, b2, b3, b4, b5, b6, true, b8, true, true, b11, G9, rfl, rfl, by simp, ((f0.out.setCell (p := ⟨G9, 0, none⟩) hle (.int .i64 vn)).setCell (p := ⟨G9, 1, none⟩) hle (.int .i64 vd)), fun _ => ⟨hle, by simpa using hlt, by simp, fun _ => bS.set2 (.int .i64 vn) (.int .i64 vd)⟩⟩
        · cases ho
          obtain rfl : b11 = false := hl'
          obtain rfl : b8 = true := hdep ⟨8, .data⟩ (by simp) rfl
          clear hdep
          refine wpOp_step rfl (fun K hK => ?_)
          simp only [cond_true]
          go_simp
          refine hK _ _ ?_; clear hK K
          exact ⟨b0, b1, b2, b3, b4, b5, b6, b7, true, b9, b10, true, G9, rfl, rfl, p10.out, f0.out, f1.out⟩
      case done =>
        rintro Lb aR W ⟨j0, j1, j2, j3, j4, j5, j6, j7, j8, j9, j10, j11, G9, rfl, rfl, -, f0, f1⟩ hall
        obtain rfl : j0 = true := hall 0 (by decide)
        obtain rfl : j1 = true := hall 1 (by decide)
        obtain rfl : j2 = true := hall 2 (by decide)
        obtain rfl : j3 = true := hall 3 (by decide)
        obtain rfl : j4 = true := hall 4 (by decide)
        obtain rfl : j5 = true := hall 5 (by decide)
        obtain rfl : j6 = true := hall 6 (by decide)
        obtain rfl : j7 = true := hall 7 (by decide)
        obtain rfl : j8 = true := hall 8 (by decide)
        obtain rfl : j9 = true := hall 9 (by decide)
        obtain rfl : j10 = true := hall 10 (by decide)
        obtain rfl : j11 = true := hall 11 (by decide)
        clear hall
        obtain ⟨hg0, hg1, -, hbx⟩ := f1 rfl
        replace hbx := hbx rfl
        have hB5 := Lib.hid (hB.out.trans (f0.mono hB.out.size))
        have hT5 := Lib.hid (hT.out.below f0 hT.out.lt)
        have hR5 := Lib.hid (hR.out.below f0 hR.out.lt)
        have hS5 := Lib.hid (hS.out.below f0 hS.out.lt)
        have gS := hS.out.lt
        have q0 := hbx.cell 0
        have q1 := hbx.cell 1
        have q2 := hbx.lt
        clear f0 f1 y0 e0 e1 hT hR hS hB lT
        simp only [cond_true]
        obtain ⟨Y5, hY5⟩ : ∃ Y, Y = W := ⟨_, rfl⟩
        obtain ⟨g9, hg9⟩ : ∃ g, g = G9 := ⟨_, rfl⟩
        subst hY5 hg9
        have hbx := Lib.hid hbx
        rcases o with _ | x
        · have e1 := Hnv.out
          simp only [numV, Prod.mk.injEq] at e1
          obtain ⟨rfl, rfl, rfl⟩ := e1
          have hend := Lib.hid (hno.out rfl)
          have r0 := hR5.out.cell 0
          have r1 := hR5.out.cell 1
          have f0 := hR5.out.frozen 0
          have f1 := hR5.out.frozen 1
          have kR := hR5.out.lt
          have hBe := Lib.hid ((hB5.out.setCell (p := ⟨w.heap.size + 1, 0, none⟩) (by simp) (.int .i64 0)).setCell (p := ⟨w.heap.size + 1, 1, none⟩) (by simp) (.int .i64 0))
          clear q0 q1
          go_wp2_with fail
          refine bodyPost_ret (v := ratV (0, 0, 3)) (by simp [results, Tryz.results113, go_sem, ratV, r0, r1]) rfl ⟨by rw [hend.out], hBe.out⟩
        · have e1 := Hnv.out
          simp only [numV, Prod.mk.injEq] at e1
          obtain ⟨rfl, rfl, rfl⟩ := e1
          have hfx := hfc.out x rfl
          have HD := Lib.hid (fun W => HAd.out s x W hfs.out hfx)
          have s0 := hS5.out.cell 0
          have s1 := hS5.out.cell 1
          have kS := hS5.out.lt
          have hadd : Hid (addO (some s) (some x) = if Fit (s + x) then some (s + x) else none) := rfl
          generalize x.num = xn at *
          generalize (x.den : Int) = xd at *
          obtain ⟨sN, hsN⟩ : ∃ z, s.num = z := ⟨_, rfl⟩
          obtain ⟨sD, hsD⟩ : ∃ z, (s.den : Int) = z := ⟨_, rfl⟩
          rw [hsN] at HD s0
          rw [hsD] at HD s1
          by_cases hf : Fit (s + x)
          · have HD' := HD.out
            rw [if_pos hf] at HD'
            simp only [numV, ratV] at HD'
            have hs2 : Hid (sumO ((cs.map (atO t)).take (k + 1)) = some (s + x)) := by unfold Hid; rw [hsn.out, hadd.out, if_pos hf]
            replace HD' := Lib.hid HD'
            clear HD hsn hno hadd hsN hsD
            go_wp2_with fail
            (with_reducible refine (HD'.out _).mono ?_); rintro _ Z ⟨rfl, hbz⟩
            have hT6 := hT5.out.below hbz hT5.out.lt
            have hR6 := hR5.out.below hbz hR5.out.lt
            have hS6 := hS5.out.below hbz hS5.out.lt
            have s0 := hS6.cell 0
            have s1 := hS6.cell 1
            have f0 := hS6.frozen 0
            have f1 := hS6.frozen 1
            have kS := hS6.lt
            have hB6 := hB5.out.trans (hbz.mono hB5.out.size)
            have hT7 := Lib.hid ((hT6.far (p := ⟨w.heap.size + 1 + 1, 0, none⟩) (by simp; omega) (.int .i64 (s + x).num)).far (p := ⟨w.heap.size + 1 + 1, 1, none⟩) (by simp; omega) (.int .i64 ((s + x).den : Int)))
            have hR7 := Lib.hid ((hR6.far (p := ⟨w.heap.size + 1 + 1, 0, none⟩) (by simp) (.int .i64 (s + x).num)).far (p := ⟨w.heap.size + 1 + 1, 1, none⟩) (by simp) (.int .i64 ((s + x).den : Int)))
            have hS7 := Lib.hid (hS6.set2 (.int .i64 (s + x).num) (.int .i64 ((s + x).den : Int)))
            have hB7 := Lib.hid ((hB6.setCell (p := ⟨w.heap.size + 1 + 1, 0, none⟩) (by simp; omega) (.int .i64 (s + x).num)).setCell (p := ⟨w.heap.size + 1 + 1, 1, none⟩) (by simp; omega) (.int .i64 ((s + x).den : Int)))
            clear hbz hT6 hR6 hS6 hB6 q0 q1 hbx
            go_wp2_with fail
            go_roundw
            case rel => exact ⟨k + 1, s + x, by omega, by go_num, hs2.out, hf, hT7.out, hR7.out, hS7.out, hB7.out⟩
            case measure => simp [intOf]; omega
          · have HD' := HD.out
            rw [if_neg hf] at HD'
            simp only [numV, ratV] at HD'
            have hend := Lib.hid (hno.out (by rw [hadd.out, if_neg hf]))
            replace HD' := Lib.hid HD'
            clear HD hsn hno hadd hsN hsD
            go_wp2_with fail
            (with_reducible refine (HD'.out _).mono ?_); rintro _ Z ⟨rfl, hbz⟩
            have hR6 := hR5.out.below hbz hR5.out.lt
            have hS6 := hS5.out.below hbz hS5.out.lt
            have s0 := hS6.cell 0
            have s1 := hS6.cell 1
            have f0 := hS6.frozen 0
            have f1 := hS6.frozen 1
            have kS := hS6.lt
            have r0 := hR6.cell 0
            have r1 := hR6.cell 1
            have p0 := hR6.frozen 0
            have p1 := hR6.frozen 1
            have kR := hR6.lt
            have hB6 := hB5.out.trans (hbz.mono hB5.out.size)
            have hBe := Lib.hid ((((hB6.setCell (p := ⟨w.heap.size + 1 + 1, 0, none⟩) (by simp; omega) (.int .i64 0)).setCell (p := ⟨w.heap.size + 1 + 1, 1, none⟩) (by simp; omega) (.int .i64 0)).setCell (p := ⟨w.heap.size + 1, 0, none⟩) (by simp) (.int .i64 0)).setCell (p := ⟨w.heap.size + 1, 1, none⟩) (by simp) (.int .i64 0))
            clear hbz hB6 q0 q1 hbx hR6 hS6
            go_wp2_with fail
            refine bodyPost_ret (v := ratV (0, 0, 3)) (by simp [results, Tryz.results113, go_sem, ratV, r0, r1]) rfl ⟨by rw [hend.out], hBe.out⟩
    · obtain rfl : k = cs.length := by omega
      have hend : Hid (res = (s.num, (s.den : Int), 0)) := by
        unfold Hid
        have := hs.out
        rw [List.take_of_length_le (by simp)] at this
        rw [← Hres.out, this]; rfl
      have s0 := hS.out.cell 0
      have s1 := hS.out.cell 1
      have kS := hS.out.lt
      have r0 := hR.out.cell 0
      have r1 := hR.out.cell 1
      have p0 := hR.out.frozen 0
      have p1 := hR.out.frozen 1
      have kR := hR.out.lt
      have hBe := Lib.hid ((hB.out.setCell (p := ⟨w.heap.size + 1, 0, none⟩) (by simp) (.int .i64 s.num)).setCell (p := ⟨w.heap.size + 1, 1, none⟩) (by simp) (.int .i64 (s.den : Int)))
      clear hs
      go_wp2_with fail
      refine bodyPost_ret (v := ratV (s.num, (s.den : Int), 0)) (by simp [results, Tryz.results113, go_sem, ratV, r0, r1]) rfl ⟨by rw [hend.out], hBe.out⟩
end Go.Proofs.YtbncfknjgldcbaaGreat
