/- The contract of Lex, for a source that is not too long. -/
import Derived.Test.YthjpcafnbniafaaLex
namespace Go.Proofs.Ythjpcafnbniafaa
open Go.RowKit Go.Joins
attribute [local go_sem] Oper.semAt_some

theorem info_scn : (Try.prog.info? 60).map (·.size) = some 6 := by kernel_rfl

theorem find_first {p : Tk → Bool} {pre : List Tk} {x : Tk} {L : List Tk} (h : pre ++ [x] <+: L) (h8 : ∀ y ∈ pre, p y = false) (hx : p x = true) : L.find? p = some x := by
  obtain ⟨t, rfl⟩ := h
  rw [List.append_assoc, List.find?_append, List.find?_eq_none.2 (fun y hy => by rw [h8 y hy]; decide)]
  simp [hx]
theorem own_down {w : World} {B1 B2 : Nat} {e : TypeId} {size n : Nat} {v : Value} {xs : List Value} (h : w.ownsRow B1 e size v n xs) (hB : B2 ≤ B1) : w.ownsRow B2 e size v n xs := by
  obtain ⟨h1, h2⟩ := h
  refine ⟨h1, ?_⟩
  rcases h2 with h2 | ⟨g, cap, cur, e1, e2, e3⟩
  · exact .inl h2
  · exact .inr ⟨g, cap, cur, e1, by omega, e3⟩
theorem Kc.alloc {own : Nat → Prop} (W : World) (o : Obj) (h : ∀ k, own k → k < W.heap.size) : Kc own W (W.alloc o) := ⟨by simp, fun k hk => heap_alloc_old W o (h k hk)⟩
theorem Kc.below {own : Nat → Prop} {W W' : World} (hb : Below W.heap.size W W') (h : ∀ k, own k → k < W.heap.size) : Kc own W W' := ⟨hb.size, fun k hk => hb.block k (h k hk)⟩
theorem Kc.set {own : Nat → Prop} (W : World) (p : Addr) (v : Value) (h : ¬ own p.block) : Kc own W (W.setCell p v) := ⟨by simp, fun k hk => Below.heap_setCell W p v k (by rintro rfl; exact h hk)⟩

set_option maxRecDepth 100000 in
set_option maxHeartbeats 8000000 in
theorem lex_ok (l : List (BitVec 8)) (hl : l.length ≤ 65536) (w : World) :
    Calls Try.prog 18 #[.string (bstr l)] w (LexPost l w) := by
  obtain ⟨i0, hi, hz0, hz1, hz2⟩ := info_parts infoT
  refine (callsIn_wide (n := 9)).1 ?_
  have hro : Fence.wide.round = none := rfl
  have hbs := bstr_size l
  have hzk := zero_tk
  have hC : Hid (∀ W : World, _) := fun W => classes_any W
  refine callsIn_of_wp_marks Try.func18 rfl trivial ?_ hro
  simp only [Try.ntmps18, List.size_toArray, List.length_cons, List.length_nil, Nat.reduceAdd, Nat.reduceSub, Array.replicate_succ, Array.replicate_zero, List.push_toArray, List.append_toArray, List.nil_append, List.cons_append]
  have hd : decide ((65536 : Int) < l.length) = false := by simp; omega
  gi_wp2_with fail
  obtain ⟨W4, hW4⟩ : ∃ W4, (((w.alloc (.cells #[.slice none 0 0] 24)).alloc (.cells #[.int .i64 0] 3)).alloc (.cells #[.int .i64 0] 38)).alloc (.cells #[.slice none 0 0] 24) = W4 := ⟨_, rfl⟩
  have r0 : BoxN W4 w.heap.size 24 #[.slice none 0 0] := by rw [← hW4]; exact (((BoxN.new _ _ _).alloc _).alloc _).alloc _
  have r1 : BoxN W4 (w.heap.size + 1) 3 #[.int .i64 0] := by
    rw [← hW4]
    have := ((BoxN.new (w.alloc (.cells #[.slice none 0 0] 24)) 3 #[.int .i64 0]).alloc (.cells #[.int .i64 0] 38)).alloc (.cells #[.slice none 0 0] 24)
    simpa using this
  have r2 : BoxN W4 (w.heap.size + 2) 38 #[.int .i64 0] := by
    rw [← hW4]
    have := (BoxN.new ((w.alloc (.cells #[.slice none 0 0] 24)).alloc (.cells #[.int .i64 0] 3)) 38 #[.int .i64 0]).alloc (.cells #[.slice none 0 0] 24)
    simpa using this
  have r3 : BoxN W4 (w.heap.size + 3) 24 #[.slice none 0 0] := by
    rw [← hW4]
    have := BoxN.new (((w.alloc (.cells #[.slice none 0 0] 24)).alloc (.cells #[.int .i64 0] 3)).alloc (.cells #[.int .i64 0] 38)) 24 #[.slice none 0 0]
    simpa using this
  have hB4 : Below w.heap.size w W4 := by
    rw [← hW4]
    exact ((((Below.refl _ w).alloc (Nat.le_refl _) _).alloc (by simp) _).alloc (by simp; omega) _).alloc (by simp; omega) _
  have hz4 : W4.heap.size = w.heap.size + 4 := by rw [← hW4]; simp
  rw [hW4]
  clear hW4
  obtain ⟨g, hg⟩ : ∃ g, w.heap.size = g := ⟨_, rfl⟩
  have HG := Lib.hid hg
  rw [hg] at r0 r1 r2 r3 hB4 hz4 ⊢
  clear hg
  simp only [Nat.add_assoc, Nat.reduceAdd]
  refine ⟨trivial, ?_⟩
  (with_reducible refine (callsIn_wide.2 (hC.out _)).mono ?_); rintro e w1 ⟨rfl, x1, x2, hz1', hb1⟩
  replace r0 := r0.keep hb1
  replace r1 := r1.keep hb1
  replace r2 := r2.keep hb1
  replace r3 := r3.keep hb1
  replace hB4 := hB4.trans (hb1.mono (by omega))
  rw [hz4] at x1 x2 hz1' ⊢
  simp only [Nat.add_assoc, Nat.reduceAdd] at x1 x2 hz1' ⊢
  clear hC hb1 hz4
  unfold clsA
  gi_wp2_with fail
  have hs1 : ScB (w1.alloc (.cells #[.string (bstr l), .int .i64 0, .func (.func 43) #[] #[.pointer (some ⟨g + 5, 0, none⟩)], .func (.func 37) #[] #[], .func (.func 38) #[] #[], .func (.func 43) #[] #[.pointer (some ⟨g + 6, 0, none⟩)]] 60)) (g + 7) (g + 5) (g + 6) l 0 := by
    have hb := BoxN.new w1 60 #[.string (bstr l), .int .i64 0, .func (.func 43) #[] #[.pointer (some ⟨g + 5, 0, none⟩)], .func (.func 37) #[] #[], .func (.func 38) #[] #[], .func (.func 43) #[] #[.pointer (some ⟨g + 6, 0, none⟩)]]
    rw [hz1'] at hb
    exact ⟨hb, x1.alloc _, x2.alloc _, by omega, by omega⟩
  replace r0 := r0.alloc (.cells #[.string (bstr l), .int .i64 0, .func (.func 43) #[] #[.pointer (some ⟨g + 5, 0, none⟩)], .func (.func 37) #[] #[], .func (.func 38) #[] #[], .func (.func 43) #[] #[.pointer (some ⟨g + 6, 0, none⟩)]] 60)
  replace r1 := r1.alloc (.cells #[.string (bstr l), .int .i64 0, .func (.func 43) #[] #[.pointer (some ⟨g + 5, 0, none⟩)], .func (.func 37) #[] #[], .func (.func 38) #[] #[], .func (.func 43) #[] #[.pointer (some ⟨g + 6, 0, none⟩)]] 60)
  replace r2 := r2.alloc (.cells #[.string (bstr l), .int .i64 0, .func (.func 43) #[] #[.pointer (some ⟨g + 5, 0, none⟩)], .func (.func 37) #[] #[], .func (.func 38) #[] #[], .func (.func 43) #[] #[.pointer (some ⟨g + 6, 0, none⟩)]] 60)
  replace r3 := r3.alloc (.cells #[.string (bstr l), .int .i64 0, .func (.func 43) #[] #[.pointer (some ⟨g + 5, 0, none⟩)], .func (.func 37) #[] #[], .func (.func 38) #[] #[], .func (.func 43) #[] #[.pointer (some ⟨g + 6, 0, none⟩)]] 60)
  replace hB4 := hB4.alloc (o := .cells #[.string (bstr l), .int .i64 0, .func (.func 43) #[] #[.pointer (some ⟨g + 5, 0, none⟩)], .func (.func 37) #[] #[], .func (.func 38) #[] #[], .func (.func 43) #[] #[.pointer (some ⟨g + 6, 0, none⟩)]] 60) (by omega)
  have hz2' : (w1.alloc (.cells #[.string (bstr l), .int .i64 0, .func (.func 43) #[] #[.pointer (some ⟨g + 5, 0, none⟩)], .func (.func 37) #[] #[], .func (.func 38) #[] #[], .func (.func 43) #[] #[.pointer (some ⟨g + 6, 0, none⟩)]] 60)).heap.size = g + 8 := by simp; omega
  generalize w1.alloc (.cells #[.string (bstr l), .int .i64 0, .func (.func 43) #[] #[.pointer (some ⟨g + 5, 0, none⟩)], .func (.func 37) #[] #[], .func (.func 38) #[] #[], .func (.func 43) #[] #[.pointer (some ⟨g + 6, 0, none⟩)]] 60) = W0 at hs1 r0 r1 r2 r3 hB4 hz2' ⊢
  clear x1 x2 hz1' hzk
  refine wpIn_handsC hro (by decide) (gf := 27) (rb := #[.pointer (some ⟨g + 7, 0, none⟩)]) (lb := #[]) rfl trivial (enters_of Try.func27 (by kernel_rfl) rfl)
    (tokens_hands 8 (by decide) l hl (g + 7) (g + 5) (g + 6) W0 hs1) (fun W1 h => ⟨0, Nat.zero_le _, hs1.keep h⟩) (Below.refl _ _) (by omega) (by rintro k (rfl | rfl | rfl) <;> omega) (fun _ => rfl)
    (fun pre W => (∃ v, BoxN W (g + 3) 24 #[v] ∧ W.ownsRow (g + 10) 27 3 v pre.length (cellsT pre)) ∧ BoxN W g 24 #[.slice none 0 0] ∧ BoxN W (g + 1) 3 #[.int .i64 0] ∧ BoxN W (g + 2) 38 #[.int .i64 0] ∧ (∃ j, j ≤ l.length ∧ ScB W (g + 7) (g + 5) (g + 6) l j) ∧ Below g w W ∧ ∀ x ∈ pre, bad x = false)
    (fun W => ∃ x, (scan 0 l).find? bad = some x ∧ BoxN W g 24 #[.slice none 0 0] ∧ BoxN W (g + 1) 3 #[.int .i64 x.o] ∧ BoxN W (g + 2) 38 #[.int .i64 (tokE x)] ∧ Below g w W)
    ?hI ?hD ?hIp ?hDp ?h0
    (fun x a' W => ∃ Bx, g + 10 ≤ Bx ∧ BoxN W Bx 27 #[.int .u8 x.k, .string (bstr x.s), .int .i64 x.o] ∧ a' = { tmps := #[.string (bstr l), undef, .pointer (some ⟨g, 0, none⟩), .pointer (some ⟨g + 1, 0, none⟩), .pointer (some ⟨g + 2, 0, none⟩), .pointer (some ⟨g + 3, 0, none⟩), .pointer (some ⟨g + 7, 0, none⟩), .pointer (some ⟨Bx, 0, none⟩), undef, .string (bstr l), .int .i64 l.length, .bool false, .string (bstr l), .agg #[.string (bstr l), .int .i64 0], .agg #[.func (.func 43) #[] #[.pointer (some ⟨g + 5, 0, none⟩)], .func (.func 37) #[] #[], .func (.func 38) #[] #[], .func (.func 43) #[] #[.pointer (some ⟨g + 6, 0, none⟩)]], .agg #[.string (bstr l), .int .i64 0, .func (.func 43) #[] #[.pointer (some ⟨g + 5, 0, none⟩)], .func (.func 37) #[] #[], .func (.func 38) #[] #[], .func (.func 43) #[] #[.pointer (some ⟨g + 6, 0, none⟩)]], .func (.func 27) #[.pointer (some ⟨g + 7, 0, none⟩)] #[], .agg #[.int .u8 x.k, .string (bstr x.s), .int .i64 x.o], undef, undef, undef, undef, undef, undef, undef, undef, undef, undef, undef, undef], defers := [] })
    ?hAx ?assign ?body ?done ?stop
  case hI =>
    rintro s A C ⟨⟨v, h1, h2⟩, h3, h4, h5, _, h7, h8⟩ hk hv
    exact ⟨⟨v, h1.it hk (by omega), own_it h2 hk (by omega)⟩, h3.it hk (by omega), h4.it hk (by omega), h5.it hk (by omega), hv, h7.trans (hk.below' (by omega)), h8⟩
  case hD =>
    rintro A C ⟨x, hx, h3, h4, h5, h7⟩ hk
    exact ⟨x, hx, h3.it hk (by omega), h4.it hk (by omega), h5.it hk (by omega), h7.trans (hk.below' (by omega))⟩
  case hIp =>
    rintro s A o ⟨⟨v, h1, h2⟩, h3, h4, h5, ⟨j, hj, h6⟩, h7, h8⟩
    rw [hz2']
    exact ⟨⟨v, h1.put (by omega) o, own_putO h2 (by omega) o⟩, h3.put (by omega) o, h4.put (by omega) o, h5.put (by omega) o, ⟨j, hj, h6.put (by omega) (by omega) (by omega) o⟩, Below.put h7 (by omega) o, h8⟩
  case hDp =>
    rintro A o ⟨x, hx, h3, h4, h5, h7⟩
    rw [hz2']
    exact ⟨x, hx, h3.put (by omega) o, h4.put (by omega) o, h5.put (by omega) o, Below.put h7 (by omega) o⟩
  case h0 => exact ⟨⟨_, r3, rfl, .inl ⟨rfl, rfl⟩⟩, r0, r1, r2, ⟨0, Nat.zero_le _, hs1⟩, hB4, fun x h => by cases h⟩
  case hAx =>
    rintro x a' A o ⟨Bx, h1, h2, h3⟩
    rw [hz2']
    exact ⟨Bx, h1, h2.put (by omega) o, h3⟩
  case assign =>
    rintro lp pre x W K hI hWz hpre hK
    unfold encT at hK ⊢
    have hK' := Lib.hid hK
    clear hK
    gi_wp2_with fail
    obtain ⟨⟨v, h1, h2⟩, h3, h4, h5, ⟨j, hj, h6⟩, h7, h8⟩ := hI
    refine hK'.out _ _ (Kc.alloc W _ ?_) ⟨⟨v, h1.alloc _, h2.alloc _⟩, h3.alloc _, h4.alloc _, h5.alloc _, ⟨j, hj, h6.keep ((Below.refl _ _).alloc (Nat.le_refl _) _)⟩, h7.alloc (by omega) _, h8⟩ ⟨W.heap.size, by omega, BoxN.new W _ _, rfl⟩
    rintro k ((rfl | rfl | rfl) | rfl | rfl) <;> omega
  case body =>
    rintro lp pre x a' W hWz ⟨⟨v, h1, h2⟩, h3, h4, h5, ⟨j, hj, h6⟩, h7, h8⟩ ⟨Bx, hBx, hX, rfl⟩ hpre
    have hxm : x ∈ scan 0 l := by
      obtain ⟨t, ht⟩ := hpre
      rw [← ht]; simp
    have hpl : pre.length + 1 ≤ 65536 := by
      have := hpre.length_le
      have h2 := scan_len 0 l
      simp at this
      omega
    obtain ⟨ch, tx, hxs, hxk, htl⟩ := scan_mem hxm
    have hEx : Hid (∀ W, ScB W (g + 7) (g + 5) (g + 6) l j → Calls Try.prog 28 #[.pointer (some ⟨g + 7, 0, none⟩), .agg #[.int .u8 x.k, .string (bstr x.s), .int .i64 x.o]] W fun e w' => e = .returned (.int .i64 (tokE x)) ∧ Below W.heap.size W w') := fun W h => by
      have := examine_any l (g + 7) (g + 5) (g + 6) j x.k x.o (by rw [hxk]; exact kd_le _) ch tx (by omega) W h
      rw [← hxs] at this
      exact this
    clear hxs hxk htl
    have c0 := hX.cell 0
    have c1 := hX.cell 1
    have c2 := hX.cell 2
    simp at c0 c1 c2
    have hXl := hX.lt
    gi_wp2_with fail
    refine ⟨trivial, ?_⟩
    (with_reducible refine ((callsIn_wide.2 (hEx.out _ h6)).inRound lp).mono ?_); rintro e w1 ⟨rfl, hb1⟩
    have hk1 : Kc (ownR (ownS (g + 7) (g + 5) (g + 6)) W0.heap.size) W w1 := Kc.below hb1 (by rintro k ((rfl | rfl | rfl) | rfl | rfl) <;> omega)
    have hzw1 := hb1.size
    replace h1 := h1.keep hb1
    replace h2 := own_below h2 hb1
    replace h3 := h3.keep hb1
    replace h4 := h4.keep hb1
    replace h5 := h5.keep hb1
    replace h6 := h6.keep hb1
    replace hX := hX.keep hb1
    replace h7 := h7.trans (hb1.mono (by omega))
    clear hb1 hEx
    by_cases hbx : tokE x = 0
    · have hq : ((tokE x : Int) != 0) = false := by rw [hbx]; rfl
      have hgood : bad x = false := by unfold bad; rw [hbx]; rfl
      have c0 := hX.cell 0
      have c1 := hX.cell 1
      have c2 := hX.cell 2
      simp at c0 c1 c2
      have cv := h1.cell 0
      simp at cv
      have hbk0 := own_block_le h2
      have hne : v.ownBlock ≠ some (g + 3) := fun e => by have := hbk0 _ e; omega
      have hown1 := h2.alloc (.cells #[.int .u8 x.k, .string (bstr x.s), .int .i64 x.o] 27)
      have hNews := World.news_of_block (heap_alloc_new w1 (.cells #[.int .u8 x.k, .string (bstr x.s), .int .i64 x.o] 27))
      have hone : ∀ u ∈ ([.int .u8 x.k, .string (bstr x.s), .int .i64 x.o] : List Value), u.oneCell' = true := by simp [Value.oneCell']
      have hzz : g + 10 ≤ (w1.alloc (.cells #[.int .u8 x.k, .string (bstr x.s), .int .i64 x.o] 27)).heap.size := by simp; omega
      have hsn : Hid (cellsT (pre ++ [x]) = cellsT pre ++ [.int .u8 x.k, .string (bstr x.s), .int .i64 x.o]) := cellsT_snoc pre x
      have hln : Hid ((pre ++ [x]).length = pre.length + 1) := by unfold Hid; simp
      have hFin : Hid (∀ (v5 : Value) (w5 : World), w5.ownsRow (g + 10) 27 3 v5 (pre.length + 1) (cellsT pre ++ [.int .u8 x.k, .string (bstr x.s), .int .i64 x.o]) → (w1.alloc (.cells #[.int .u8 x.k, .string (bstr x.s), .int .i64 x.o] 27)).grownBy w5 v.ownBlock →
          w5.cell? ⟨g + 3, 0, none⟩ = some v ∧ w5.frozen? ⟨g + 3, 0, none⟩ = false ∧ g + 3 < w5.heap.size ∧
          (Kc (ownR (ownS (g + 7) (g + 5) (g + 6)) W0.heap.size) W (w5.setCell ⟨g + 3, 0, none⟩ v5) ∧ (∃ v, BoxN (w5.setCell ⟨g + 3, 0, none⟩ v5) (g + 3) 24 #[v] ∧ (w5.setCell ⟨g + 3, 0, none⟩ v5).ownsRow (g + 10) 27 3 v (pre ++ [x]).length (cellsT (pre ++ [x]))) ∧
            BoxN (w5.setCell ⟨g + 3, 0, none⟩ v5) g 24 #[.slice none 0 0] ∧ BoxN (w5.setCell ⟨g + 3, 0, none⟩ v5) (g + 1) 3 #[.int .i64 0] ∧ BoxN (w5.setCell ⟨g + 3, 0, none⟩ v5) (g + 2) 38 #[.int .i64 0] ∧
            (∃ j, j ≤ l.length ∧ ScB (w5.setCell ⟨g + 3, 0, none⟩ v5) (g + 7) (g + 5) (g + 6) l j) ∧ Below g w (w5.setCell ⟨g + 3, 0, none⟩ v5) ∧ ∀ y ∈ pre ++ [x], bad y = false)) := fun v5 w5 hn5 hg5 => by
        have hbk : ∀ k, k < g + 10 → w5.heap[k]? = w1.heap[k]? := fun k hk => (hg5.block k (by simp; omega) (fun e => by have := hbk0 _ e.symm; omega)).trans (heap_alloc_old w1 _ (by omega))
        have hb5 : BoxN w5 (g + 3) 24 #[v] := (hbk _ (by omega)).trans h1
        have hs5 : ScB w5 (g + 7) (g + 5) (g + 6) l j := ⟨(hbk _ (by omega)).trans h6.s, (hbk _ (by omega)).trans h6.x1, (hbk _ (by omega)).trans h6.x2, h6.n1, h6.n2⟩
        have hsz5 := hg5.size
        simp at hsz5
        refine ⟨?_, hb5.frozen 0, hb5.lt, ?_, ⟨v5, ?_, ?_⟩, ?_, ?_, ?_, ⟨j, hj, ?_⟩, ?_, ?_⟩
        · rw [hb5.cell 0]; rfl
        · refine hk1.trans ⟨by simp; omega, fun k hk => ?_⟩
          have hk' : k < g + 10 := by rcases hk with (rfl | rfl | rfl) | rfl | rfl <;> omega
          have hk3 : k ≠ g + 3 := by rcases hk with (rfl | rfl | rfl) | rfl | rfl <;> omega
          rw [Below.heap_setCell w5 _ _ k hk3]; exact hbk k hk'
        · exact hb5.set1 0 v5
        · rw [hln.out, hsn.out]; exact own_far hn5 (by simp) v5
        · exact BoxN.far (W := w5) ((hbk _ (by omega)).trans h3) (by simp) _
        · exact BoxN.far (W := w5) ((hbk _ (by omega)).trans h4) (by simp) _
        · exact BoxN.far (W := w5) ((hbk _ (by omega)).trans h5) (by simp) _
        · exact hs5.far (by simp) (by simp) (by simp) _
        · exact ((h7.alloc (by omega) _).grown hg5 (by simp; omega) (fun k e => by have := hbk0 _ e; omega)).setCell (by simp) _
        · intro y hy
          rcases List.mem_append.1 hy with hy | hy
          · exact h8 y hy
          · rw [List.mem_singleton.1 hy]; exact hgood
      clear h1 h2 h3 h4 h5 h6 h7 h8 hX hk1 hpre hxm hbk0
      gi_wp2_with (gi_at_builtin; refine wpListIn_append_own _ rfl _ _ 24 rfl (g + 10) 27 i0 _ 3 32 Try.underlying24 hi hz0 hz1 hz2 rfl (by decide) v pre.length _ rfl hown1 ⟨w1.heap.size, 0, none⟩ 1 1 [.int .u8 x.k, .string (bstr x.s), .int .i64 x.o] rfl rfl hNews hone (by unfold maxLen; omega) (by omega) hzz ?_; intro v5 w5 hn5 hg5 _; obtain ⟨hat5, hfr5, hl5, hF⟩ := hFin.out v5 w5 hn5 hg5; obtain ⟨g5, cg5, rfl⟩ := own_slice hn5; have HF5 := Lib.hid hF; clear hF hn5 hg5 hown1 hNews)
      exact HF5.out
    · have hq : ((tokE x : Int) != 0) = true := by rw [bne_iff_ne]; omega
      have hq2 : (((tokE x : Nat) : Int) == 0) = false := by rw [beq_eq_false_iff_ne]; omega
      have c2 := hX.cell 2
      have e0 := h3.cell 0
      have e1 := h4.cell 0
      have e2 := h5.cell 0
      simp at c2 e0 e1 e2
      have z0 := h3.frozen 0
      have z1 := h4.frozen 0
      have z2 := h5.frozen 0
      have hbad : bad x = true := by unfold bad; simpa using hbx
      have hfind := find_first hpre h8 hbad
      obtain ⟨tx, htx⟩ : ∃ tx, tokE x = tx := ⟨_, rfl⟩
      rw [htx] at hq hq2 ⊢
      have HR : Hid (Kc (ownR (ownS (g + 7) (g + 5) (g + 6)) W0.heap.size) W (((w1.setCell ⟨g, 0, none⟩ (.slice none 0 0)).setCell ⟨g + 1, 0, none⟩ (.int .i64 x.o)).setCell ⟨g + 2, 0, none⟩ (.int .i64 tx)).drew ∧ ∃ y, (scan 0 l).find? bad = some y ∧ BoxN (((w1.setCell ⟨g, 0, none⟩ (.slice none 0 0)).setCell ⟨g + 1, 0, none⟩ (.int .i64 x.o)).setCell ⟨g + 2, 0, none⟩ (.int .i64 tx)).drew g 24 #[.slice none 0 0] ∧ BoxN (((w1.setCell ⟨g, 0, none⟩ (.slice none 0 0)).setCell ⟨g + 1, 0, none⟩ (.int .i64 x.o)).setCell ⟨g + 2, 0, none⟩ (.int .i64 tx)).drew (g + 1) 3 #[.int .i64 y.o] ∧ BoxN (((w1.setCell ⟨g, 0, none⟩ (.slice none 0 0)).setCell ⟨g + 1, 0, none⟩ (.int .i64 x.o)).setCell ⟨g + 2, 0, none⟩ (.int .i64 tx)).drew (g + 2) 38 #[.int .i64 (tokE y)] ∧ Below g w (((w1.setCell ⟨g, 0, none⟩ (.slice none 0 0)).setCell ⟨g + 1, 0, none⟩ (.int .i64 x.o)).setCell ⟨g + 2, 0, none⟩ (.int .i64 tx)).drew) := by
        refine ⟨hk1.trans ⟨by simp, fun k hk => ?_⟩, x, hfind, ?_, ?_, ?_, ?_⟩
        · have hk3 : k ≠ g ∧ k ≠ g + 1 ∧ k ≠ g + 2 := by rcases hk with (rfl | rfl | rfl) | rfl | rfl <;> omega
          exact (Below.heap_setCell _ _ _ k hk3.2.2).trans ((Below.heap_setCell _ _ _ k hk3.2.1).trans (Below.heap_setCell _ _ _ k hk3.1))
        · exact (((h3.set1 0 _).far (by simp) _).far (by simp) _).drew
        · exact (((h4.far (by simp) _).set1 0 _).far (by simp) _).drew
        · rw [htx]; exact (((h5.far (by simp) _).far (by simp) _).set1 0 _).drew
        · exact (((h7.setCell (Nat.le_refl _) _).setCell (by simp) _).setCell (by simp) _).drew
      clear h1 h2 h3 h4 h5 h6 h7 h8 hX hk1 hpre hxm hbx hbad hfind htx
      gi_wp2_with fail
      gi_region
      all_goals
        gi_wp2_with fail
        exact ⟨HR.out.1, HR.out.2⟩
  case done =>
    rintro Dk W rfl ⟨⟨v, h1, h2⟩, h3, h4, h5, _, h7, h8⟩ hK
    obtain ⟨G, cg, rfl⟩ := own_slice h2
    have hf : (scan 0 l).find? bad = none := by
      rw [List.find?_eq_none]
      exact fun x hx => by rw [h8 x hx]; decide
    have hT : lexT l = scan 0 l := by unfold lexT; rw [if_neg]; rintro (h | h); omega; rw [find_none hf] at h; cases h
    have hO : lexO l = 0 := by unfold lexO; rw [if_neg (by omega), hf]
    have hE : lexE l = 0 := by unfold lexE; rw [if_neg (by omega), hf]
    have hPo : Hid (∀ e w', e = .returned (.tuple #[.slice G (scan 0 l).length cg, .int .i64 0, .int .i64 0]) → w'.ownsRow (g + 10) 27 3 (.slice G (scan 0 l).length cg) (scan 0 l).length (cellsT (scan 0 l)) → Below g w w' → LexPost l w e w') := fun e w' q1 q2 q3 => by
      rw [← HG.out] at q2 q3
      refine ⟨G, cg, ?_, ?_, q3⟩
      · rw [hT, hO, hE]; exact q1
      · rw [hT]; exact own_down q2 (by omega)
    have cv := h1.cell 0
    have e0 := h3.cell 0
    have e1 := h4.cell 0
    have e2 := h5.cell 0
    simp at cv e0 e1 e2
    have z0 := h3.frozen 0
    have z1 := h4.frozen 0
    have z2 := h5.frozen 0
    have y0 := h3.lt
    have y1 := h4.lt
    have y2 := h5.lt
    have y3 := h1.lt
    obtain ⟨Wf, hWf⟩ : ∃ Wf, ((W.setCell ⟨g, 0, none⟩ (.slice G (scan 0 l).length cg)).setCell ⟨g + 1, 0, none⟩ (.int .i64 0)).setCell ⟨g + 2, 0, none⟩ (.int .i64 0) = Wf := ⟨_, rfl⟩
    have q0 : BoxN Wf g 24 #[.slice G (scan 0 l).length cg] := by rw [← hWf]; exact ((h3.set1 0 _).far (by simp) _).far (by simp) _
    have q1 : BoxN Wf (g + 1) 3 #[.int .i64 0] := by rw [← hWf]; exact ((h4.far (by simp) _).set1 0 _).far (by simp) _
    have q2 : BoxN Wf (g + 2) 38 #[.int .i64 0] := by rw [← hWf]; exact ((h5.far (by simp) _).far (by simp) _).set1 0 _
    have q3 : Wf.ownsRow (g + 10) 27 3 (.slice G (scan 0 l).length cg) (scan 0 l).length (cellsT (scan 0 l)) := by rw [← hWf]; exact own_far (own_far (own_far h2 (by simp) _) (by simp) _) (by simp) _
    have q4 : Below g w Wf := by rw [← hWf]; exact ((h7.setCell (Nat.le_refl _) _).setCell (by simp) _).setCell (by simp) _
    have q5 : Wf.heap[W0.heap.size]? = some (.deferred (some [])) := by rw [← hWf, Below.heap_setCell _ _ _ _ (by simp; omega), Below.heap_setCell _ _ _ _ (by simp; omega), Below.heap_setCell _ _ _ _ (by simp; omega)]; exact hK
    have H0 := Lib.hid q0
    have H1 := Lib.hid q1
    have H2 := Lib.hid q2
    have H3 := Lib.hid q3
    have H4 := Lib.hid q4
    have H5 := Lib.hid q5
    have HW := Lib.hid hWf
    clear h1 h2 h3 h4 h5 h7 h8 hT hO hE hf q0 q1 q2 q3 q4 q5 hWf r0 r1 r2 r3 hs1
    gi_wp2_with fail
    rw [HW.out]
    refine ⟨by simp, .inl ⟨_, _, rfl, run_takeDeferred H5.out, ?_⟩⟩
    exact ⟨_, results_c3 Try.results18 _ _ _ _ _ _ _ _ rfl rfl rfl (H0.out.put (by omega) _) (H1.out.put (by omega) _) (H2.out.put (by omega) _) (ag1 _) (ag2 _) (ag3 _), hPo.out _ _ rfl (own_putO H3.out (by omega) _) (Below.put H4.out (by omega) _)⟩
  case stop =>
    rintro Dk W rfl ⟨x, hf, h3, h4, h5, h7⟩ hK
    have hT : lexT l = [] := by unfold lexT; rw [if_pos]; right; rw [List.any_eq_true]; exact ⟨x, List.mem_of_find?_eq_some hf, List.find?_some hf⟩
    have hO : lexO l = x.o := by unfold lexO; rw [if_neg (by omega), hf]
    have hE : lexE l = tokE x := by unfold lexE; rw [if_neg (by omega), hf]
    have hPo : Hid (∀ e w', e = .returned (.tuple #[.slice none 0 0, .int .i64 x.o, .int .i64 (tokE x)]) → Below g w w' → LexPost l w e w') := fun e w' q1 q3 => by
      rw [← HG.out] at q3
      refine ⟨none, 0, ?_, ?_, q3⟩
      · rw [hT, hO, hE]; exact q1
      · rw [hT]; exact ⟨rfl, .inl ⟨rfl, rfl⟩⟩
    gi_wp2_with fail
    refine ⟨by simp, .inl ⟨_, _, rfl, run_takeDeferred hK, ?_⟩⟩
    exact ⟨_, results_c3 Try.results18 _ _ _ _ _ _ _ _ rfl rfl rfl (h3.put (by omega) _) (h4.put (by omega) _) (h5.put (by omega) _) (ag1 _) (ag2 _) (ag3 _), hPo.out _ _ rfl (Below.put h7 (by omega) _)⟩
end Go.Proofs.Ythjpcafnbniafaa
