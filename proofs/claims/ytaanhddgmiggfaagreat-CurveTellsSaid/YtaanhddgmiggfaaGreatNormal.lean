/- curve.normal: the normal form of valid buckets. -/
import Derived.Test.YtaanhddgmiggfaaGreatSorted
import Derived.BigGuardPart
namespace Go.Proofs.YtaanhddgmiggfaaGreat
open Go.RowKit Go.Joins Go.Shelf Go.Sort Num

/-- One bucket more, behind those that are kept. -/
def keepB (kept : List Buck) (b : Buck) : List Buck :=
  match kept.getLast? with
  | none => kept ++ [b]
  | some l => if l ≠ b ∧ l.domB b = false then kept ++ [b] else kept
theorem keep_nil (b : Buck) : keepB [] b = [b] := rfl
theorem keep_more {l b : Buck} (init : List Buck) (h1 : l ≠ b) (h2 : l.domB b = false) : keepB (init ++ [l]) b = init ++ [l] ++ [b] := by
  unfold keepB; rw [List.getLast?_concat]; exact if_pos ⟨h1, h2⟩
theorem keep_same {l : Buck} (init : List Buck) : keepB (init ++ [l]) l = init ++ [l] := by
  unfold keepB; rw [List.getLast?_concat]; exact if_neg (fun h => h.1 rfl)
theorem keep_dom {l b : Buck} (init : List Buck) (h2 : l.domB b = true) : keepB (init ++ [l]) b = init ++ [l] := by
  unfold keepB; rw [List.getLast?_concat]; exact if_neg (fun h => by rw [h2] at h; cases h.2)
/-- The normal form. -/
def normL (c : List Buck) : List Buck := (sortL c).foldl keepB []
theorem foldl_keep_length (l : List Buck) (acc : List Buck) : (l.foldl keepB acc).length ≤ acc.length + l.length := by
  induction l generalizing acc with
  | nil => simp
  | cons x l ih =>
    rw [List.foldl_cons]
    have h1 := ih (keepB acc x)
    have h2 : (keepB acc x).length ≤ acc.length + 1 := by
      unfold keepB
      split
      · simp
      · split <;> simp
    simp only [List.length_cons]; omega

theorem own_below {w w' : World} {base : Nat} {e : TypeId} {size n : Nat} {v : Value} {xs : List Value} (h : w.ownsRow base e size v n xs) (hb : Below w.heap.size w w') : w'.ownsRow base e size v n xs := by
  obtain ⟨h1, h2⟩ := h
  refine ⟨h1, ?_⟩
  rcases h2 with h2 | ⟨g, cap, cur, e1, e2, e3, e4⟩
  · exact .inl h2
  · exact .inr ⟨g, cap, cur, e1, e2, (hb.block g (Array.getElem?_eq_some_iff.1 e3).1).trans e3, e4⟩
theorem own_base {w : World} {base base' : Nat} {e : TypeId} {size n : Nat} {v : Value} {xs : List Value} (h : w.ownsRow base e size v n xs) (hb : base' ≤ base) : w.ownsRow base' e size v n xs := by
  obtain ⟨h1, h2⟩ := h
  refine ⟨h1, ?_⟩
  rcases h2 with h2 | ⟨g, cap, cur, e1, e2, e3⟩
  · exact .inl h2
  · exact .inr ⟨g, cap, cur, e1, by omega, e3⟩
theorem own_cells {w : World} {base : Nat} {g cap : Nat} {c : List Buck} (h : w.ownsRow base 80 4 (.slice (some ⟨g, 0, none⟩) c.length cap) c.length (cellsOf c)) {j : Nat} {x : Buck} (hx : c[j]? = some x) :
    w.cell? ⟨g, j * 4, none⟩ = some (.int .i64 x.b.num) ∧ w.cell? ⟨g, j * 4 + 1, none⟩ = some (.int .i64 x.b.den) ∧ w.cell? ⟨g, j * 4 + 2, none⟩ = some (.int .i64 x.r.num) ∧ w.cell? ⟨g, j * 4 + 3, none⟩ = some (.int .i64 x.r.den) := by
  have hj : j < c.length := (List.getElem?_eq_some_iff.1 hx).1
  have f := fun i (hi : i < 4) => (h.cellAt (j * 4 + i) (by omega)).trans (flat_cells c j i x hx hi)
  exact ⟨f 0 (by decide), f 1 (by decide), f 2 (by decide), f 3 (by decide)⟩
theorem own_lt {w : World} {base : Nat} {e : TypeId} {size n : Nat} {g cap : Nat} {xs : List Value} (h : w.ownsRow base e size (.slice (some ⟨g, 0, none⟩) n cap) n xs) : base ≤ g ∧ g < w.heap.size := by
  rcases h.2 with ⟨h, _⟩ | ⟨g', cap', cur, e1, e2, e3, _⟩
  · cases h
  · simp only [Value.slice.injEq, Option.some.injEq, Addr.mk.injEq, and_true, true_and] at e1
    obtain ⟨rfl, -⟩ := e1
    exact ⟨e2, (Array.getElem?_eq_some_iff.1 e3).1⟩

set_option maxRecDepth 100000 in
set_option maxHeartbeats 4000000 in
theorem normal_any (A : Option Addr) (cap : Nat) (c : List Buck) (hlen : c.length ≤ 1048576) (w : World) (hI : Sl w.heap.size w (.slice A c.length cap) c) :
    Calls Tryz.prog 65 #[.slice A c.length cap] w fun e w' => ∃ v, e = .returned v ∧ w'.ownsRow w.heap.size 80 4 v (normL c).length (cellsOf (normL c)) ∧ (v = .slice none 0 0 ↔ normL c = []) ∧ Below w.heap.size w w' := by
  obtain ⟨i0, hi, hz0, hz1, hz2⟩ := info_parts infoB
  have HV : Hid (∀ W : World, _) := fun W => callsIn_wide.1 (values_in Fence.wide 9 trivial rfl A c.length cap W)
  have hA := sorted_any w.heap.size (.slice A c.length cap) c (by omega) (w.alloc (.cells #[.slice A c.length cap] 22)) (by simp) (Boxed.new w _ _).cell (by
    obtain ⟨A', cap', e, h⟩ := hI.below ((Below.refl _ w).alloc (Nat.le_refl _) (.cells #[.slice A c.length cap] 22)) (Nat.le_refl _)
    exact ⟨A', cap', e, fun hc => by obtain ⟨b, off, e1, e2, e3⟩ := h hc; exact ⟨b, off, e1, by simp; omega, e3⟩⟩)
  have hsl := Lib.hid (sortL_length c)
  have hN : Hid (normL c = (sortL c).foldl keepB []) := rfl
  generalize normL c = N at hN ⊢
  generalize hS : sortL c = S at hA hsl hN
  clear hI hS
  have hSl : S.length ≤ 1048576 := by rw [hsl.out]; exact hlen
  go_enter Tryz.func65, Tryz.ntmps65
  go_wp2_with fail
  refine (HV.out _).mono ?_
  rintro e w1 ⟨rfl, rfl⟩
  go_wp2_with fail
  refine hA.mono ?_
  rintro e w1 ⟨v, rfl, hb, hSl2⟩
  obtain ⟨A', cap', rfl, hrow⟩ := hSl2
  have hB1 : Below w.heap.size w w1 := ((Below.refl _ _).alloc (Nat.le_refl _) _).trans (hb.mono (by simp))
  clear hb hA HV
  go_wp2_with fail
  go_loopw [3, 11] (fun v i wr => ∃ k : Nat, k ≤ S.length ∧ i = .int .i64 k ∧ wr.ownsRow w1.heap.size 80 4 v ((S.take k).foldl keepB []).length (cellsOf ((S.take k).foldl keepB [])) ∧ (v = .slice none 0 0 ↔ (S.take k).foldl keepB [] = []) ∧ Below w1.heap.size w1 wr)
    (fun _ i _ => S.length - (intOf i).toNat)
  case atStart => exact ⟨0, Nat.zero_le _, rfl, World.ownsRow_nil _ _ _ _, by simp, Below.refl _ _⟩
  case round =>
    obtain ⟨k, hk, rfl, hown, hnil, hBr⟩ := hrel
    by_cases hlt : k < S.length
    · have hx : S[k]? = some S[k] := List.getElem?_eq_getElem hlt
      obtain ⟨x, hxe⟩ : ∃ x, S[k] = x := ⟨_, rfl⟩
      rw [hxe] at hx
      have hts := take_succ' hx
      have hfold : (S.take (k + 1)).foldl keepB [] = keepB ((S.take k).foldl keepB []) x := by rw [hts, List.foldl_append]; rfl
      have hfl := foldl_keep_length (S.take k) []
      have htl : (S.take k).length ≤ k := List.length_take_le _ _
      obtain ⟨b, off, rfl, hb, hr⟩ := hrow (by intro h; rw [h] at hlt; simp at hlt)
      obtain ⟨c0, c1, c2, c3⟩ := hr.below hBr hb k x hx
      have hFold := Lib.hid hfold
      generalize (S.take k).foldl keepB [] = acc at hown hnil hFold hfl
      simp only [List.length_nil, Nat.zero_add] at hfl
      clear hx hxe hts hfold hrow
      have hone := one_cells x
      have hcn : Hid (cellsOf [x] = x.cells) := by simp [cellsOf, Hid]
      simp only [Buck.cells] at hone
      rcases List.eq_nil_or_concat acc with rfl | ⟨init, l, hacc⟩
      · obtain rfl : u3 = .slice none 0 0 := hnil.2 rfl
        clear hnil hown
        go_wp2_with fail
        have bX := BoxN.new wr 80 #[.int .i64 x.b.num, .int .i64 x.b.den, .int .i64 x.r.num, .int .i64 x.r.den]
        have hB2 : Below w1.heap.size w1 (wr.alloc (.cells #[.int .i64 x.b.num, .int .i64 x.b.den, .int .i64 x.r.num, .int .i64 x.r.den] 80)) := hBr.alloc hBr.size _
        generalize wr.alloc (.cells #[.int .i64 x.b.num, .int .i64 x.b.den, .int .i64 x.r.num, .int .i64 x.r.den] 80) = wq at bX hB2 ⊢
        generalize wr.heap.size = bb at bX ⊢
        go_quiet (fail)
        rename_i nq
        have own1 : (wq.drewN nq).ownsRow w1.heap.size 80 4 (.slice none 0 0) 0 [] := World.ownsRow_nil _ _ _ _
        replace bX : BoxN (wq.drewN nq) bb 80 _ := bX
        replace hB2 : Below w1.heap.size w1 (wq.drewN nq) := below_drewN hB2 nq
        generalize wq.drewN nq = v1 at own1 bX hB2 ⊢
        have b0 : v1.cell? ⟨bb, 0, none⟩ = some (.int .i64 x.b.num) := bX.cell 0
        have b1 : v1.cell? ⟨bb, 1, none⟩ = some (.int .i64 x.b.den) := bX.cell 1
        have b2 : v1.cell? ⟨bb, 2, none⟩ = some (.int .i64 x.r.num) := bX.cell 2
        have b3 : v1.cell? ⟨bb, 3, none⟩ = some (.int .i64 x.r.den) := bX.cell 3
        go_wp2_with (at_builtin; refine wpList_append_own _ rfl _ _ 23 rfl w1.heap.size 80 i0 _ 4 32 Tryz.underlying23 hi hz0 hz1 hz2 rfl (by decide) _ _ _ rfl (own1.alloc _) ⟨v1.heap.size, 0, none⟩ 1 1 [.int .i64 x.b.num, .int .i64 x.b.den, .int .i64 x.r.num, .int .i64 x.r.den] rfl rfl (World.news_of_block (cs := #[.int .i64 x.b.num, .int .i64 x.b.den, .int .i64 x.r.num, .int .i64 x.r.den]) (t := 80) (fr := (0, 0)) (heap_alloc_new v1 _)) hone (by unfold maxLen; omega) (by omega) (by have := hB2.size; simp; omega) ?_; intro v' w2 hown' hgrow _; obtain ⟨g', cap3, rfl⟩ := ownsRow_succ hown')
        have hB3 : Below w1.heap.size w1 w2 := (hB2.alloc hB2.size _).grown hgrow (by have := hB2.size; simp; omega) (fun k e => by cases (show (none : Option Nat) = some k from e))
        go_roundw
        case rel => exact ⟨k + 1, by omega, by go_num, by rw [hFold.out, keep_nil]; simpa [cellsOf, Buck.cells] using hown', by rw [hFold.out, keep_nil]; simp, hB3⟩
        case measure => simp [intOf]; omega
      · rw [List.concat_eq_append] at hacc
        subst hacc
        have hlen2 : (init ++ [l]).length = init.length + 1 := by simp
        have hcl := one_cells l
        have own0 := hown
        rw [hlen2] at own0
        obtain ⟨g, cap2, rfl⟩ := ownsRow_succ own0
        have ok := fun (h : wr.ownsRow w1.heap.size 80 4 (.slice (some ⟨g, 0, none⟩) (init ++ [l]).length cap2) (init ++ [l]).length (cellsOf (init ++ [l]))) => own_cells h (j := init.length) (x := l) (by simp)
        obtain ⟨d0, d1, d2, d3⟩ := ok (by rw [hlen2]; exact own0)
        obtain ⟨hg1, hg2⟩ := own_lt own0
        rw [hlen2] at hfl
        have hfl' : init.length < 1048576 := by omega
        clear ok hown hnil
        generalize init.length = m at *
        have hlen3 : (init ++ [l]).length = m + 1 := hlen2
        go_wp2_with fail
        have bX := BoxN.new wr 80 #[.int .i64 x.b.num, .int .i64 x.b.den, .int .i64 x.r.num, .int .i64 x.r.den]
        have hBq : Below w1.heap.size w1 (wr.alloc (.cells #[.int .i64 x.b.num, .int .i64 x.b.den, .int .i64 x.r.num, .int .i64 x.r.den] 80)) := hBr.alloc hBr.size _
        have ownq := own0.alloc (.cells #[.int .i64 x.b.num, .int .i64 x.b.den, .int .i64 x.r.num, .int .i64 x.r.den] 80)
        have qlt : ∀ a : Addr, a.block < wr.heap.size → (wr.alloc (.cells #[.int .i64 x.b.num, .int .i64 x.b.den, .int .i64 x.r.num, .int .i64 x.r.den] 80)).cell? a = wr.cell? a := fun a h => World.cell?_alloc_lt wr _ a h
        have qg : g < (wr.alloc (.cells #[.int .i64 x.b.num, .int .i64 x.b.den, .int .i64 x.r.num, .int .i64 x.r.den] 80)).heap.size := by simp; omega
        generalize wr.alloc (.cells #[.int .i64 x.b.num, .int .i64 x.b.den, .int .i64 x.r.num, .int .i64 x.r.den] 80) = wq at bX hBq ownq qlt qg ⊢
        have p0 := Gr.cell (bX.cell 0) bX.lt
        have p1 := Gr.cell (bX.cell 1) bX.lt
        have p2 := Gr.cell (bX.cell 2) bX.lt
        have p3 := Gr.cell (bX.cell 3) bX.lt
        have q0 := Gr.cell ((qlt ⟨g, m * 4, none⟩ hg2).trans d0) qg
        have q1 := Gr.cell ((qlt ⟨g, m * 4 + 1, none⟩ hg2).trans d1) qg
        have q2 := Gr.cell ((qlt ⟨g, m * 4 + 2, none⟩ hg2).trans d2) qg
        have q3 := Gr.cell ((qlt ⟨g, m * 4 + 3, none⟩ hg2).trans d3) qg
        haveI : Nonempty (Wd (Gr wq)) := ⟨⟨wq, Below.refl _ _⟩⟩
        clear qlt d0 d1 d2 d3
        generalize wr.heap.size = bb at *
        have hmn : decide ((m : Int) < 0) = false := by simp
        by_cases hlx : l = x
        · subst hlx
          refine wp_region_cls (Gr wq) (by kernel_rfl) (by kernel_rfl) (Gr.start wq) ?_
          repeat (go_big_quiet_step (fail))
          refine wpQuiet_nil ?_
          intro _ hw'
          obtain ⟨s0, rfl⟩ := hw'
          have hG : Below wq.heap.size wq s0.val := s0.ok
          generalize s0.val = v1 at hG ⊢
          have hB2 := hBq.trans (hG.mono hBq.size)
          clear s0 p0 p1 p2 p3 q0 q1 q2 q3
          go_wp2
          go_roundw
          case rel => exact ⟨k + 1, by omega, by go_num, by rw [hFold.out, keep_same, hlen3]; exact own_below ownq hG, by rw [hFold.out, keep_same]; simp, hB2⟩
          case measure => simp [intOf]; omega
        · have hne := fun W => neq_b hlx W
          have HD : Hid (∀ W : World, Calls Tryz.prog 103 #[.agg #[.int .i64 l.b.num, .int .i64 l.b.den, .int .i64 l.r.num, .int .i64 l.r.den], .agg #[.int .i64 x.b.num, .int .i64 x.b.den, .int .i64 x.r.num, .int .i64 x.r.den]] W fun e w' => e = .returned (.bool (l.domB x)) ∧ Below W.heap.size W w') := fun W => (dominates_r l x W).mono fun _ _ ⟨h, k⟩ => ⟨h, k.b⟩
          obtain ⟨dm, hdm⟩ : ∃ dm, l.domB x = dm := ⟨_, rfl⟩
          rw [hdm] at HD
          cases dm
          · refine wp_region_cls (Gr wq) (by kernel_rfl) (by kernel_rfl) (Gr.start wq) ?_
            repeat (go_big_quiet_step ((go_at_call 103; exact Calls.cls Gr.close (HD.out _))))
            refine wpQuiet_nil ?_
            intro _ hw'
            obtain ⟨s0, rfl⟩ := hw'
            have hG : Below wq.heap.size wq s0.val := s0.ok
            generalize s0.val = v1 at hG ⊢
            have hB2 := hBq.trans (hG.mono hBq.size)
            clear s0 p0 p1 p2 p3 q0 q1 q2 q3
            have own1 := own_below ownq hG
            have bX1 : BoxN v1 bb 80 _ := bX.below hG bX.lt
            have b0 : v1.cell? ⟨bb, 0, none⟩ = some (.int .i64 x.b.num) := bX1.cell 0
            have b1 : v1.cell? ⟨bb, 1, none⟩ = some (.int .i64 x.b.den) := bX1.cell 1
            have b2 : v1.cell? ⟨bb, 2, none⟩ = some (.int .i64 x.r.num) := bX1.cell 2
            have b3 : v1.cell? ⟨bb, 3, none⟩ = some (.int .i64 x.r.den) := bX1.cell 3
            have hsn := Lib.hid (cellsOf_snoc (init ++ [l]) x)
            simp only [Buck.cells] at hsn
            go_wp2_with (at_builtin; refine wpList_append_own _ rfl _ _ 23 rfl w1.heap.size 80 i0 _ 4 32 Tryz.underlying23 hi hz0 hz1 hz2 rfl (by decide) _ _ _ rfl (own1.alloc _) ⟨v1.heap.size, 0, none⟩ 1 1 [.int .i64 x.b.num, .int .i64 x.b.den, .int .i64 x.r.num, .int .i64 x.r.den] rfl rfl (World.news_of_block (cs := #[.int .i64 x.b.num, .int .i64 x.b.den, .int .i64 x.r.num, .int .i64 x.r.den]) (t := 80) (fr := (0, 0)) (heap_alloc_new v1 _)) hone (by unfold maxLen; omega) (by omega) (by have := hB2.size; simp; omega) ?_; intro v' w2 hown' hgrow _; obtain ⟨g', cap3, rfl⟩ := ownsRow_succ hown')
            have hB3 : Below w1.heap.size w1 w2 := (hB2.alloc hB2.size _).grown hgrow (by have := hB2.size; simp; omega) (fun k e => by have e' : some g = some k := e; cases e'; exact hg1)
            have hlen4 : (init ++ [l] ++ [x]).length = m + 1 + 1 := by rw [List.length_append, hlen3]; rfl
            go_roundw
            case rel => exact ⟨k + 1, by omega, by go_num, by rw [hFold.out, keep_more _ hlx hdm, hlen4, hsn.out]; exact hown', by rw [hFold.out, keep_more _ hlx hdm]; simp, hB3⟩
            case measure => simp [intOf]; omega
          · refine wp_region_cls (Gr wq) (by kernel_rfl) (by kernel_rfl) (Gr.start wq) ?_
            repeat (go_big_quiet_step ((go_at_call 103; exact Calls.cls Gr.close (HD.out _))))
            refine wpQuiet_nil ?_
            intro _ hw'
            obtain ⟨s0, rfl⟩ := hw'
            have hG : Below wq.heap.size wq s0.val := s0.ok
            generalize s0.val = v1 at hG ⊢
            have hB2 := hBq.trans (hG.mono hBq.size)
            clear s0 p0 p1 p2 p3 q0 q1 q2 q3
            go_wp2
            go_roundw
            case rel => exact ⟨k + 1, by omega, by go_num, by rw [hFold.out, keep_dom _ hdm, hlen3]; exact own_below ownq hG, by rw [hFold.out, keep_dom _ hdm]; simp, hB2⟩
            case measure => simp [intOf]; omega
    · obtain rfl : k = S.length := by omega
      rw [List.take_length, ← hN.out] at hown hnil
      go_wp2_with fail
      go_ret
      refine ⟨u3, rfl, own_base hown hB1.size, hnil, hB1.trans (hBr.mono hB1.size)⟩
end Go.Proofs.YtaanhddgmiggfaaGreat
