/- module of the law's package. -/
import Derived.Test.YtdhofaiogbpjpaaSzv
import Derived.Test.YtdhofaiogbpjpaaRow
namespace Go.Proofs.Ytdhofaiogbpjpaa
open Go.RowKit Go.Joins
namespace Me
/-- The ints that a slice reads. -/
def isZ (A : Option Addr) (L : List Int) (W : World) : Prop := L ≠ [] → ∃ b off, A = some ⟨b, off, none⟩ ∧ b < W.heap.size ∧ ∀ k x, L[k]? = some x → W.cell? ⟨b, off + k, none⟩ = some (.int .i64 x)
theorem isZ.keep {A : Option Addr} {L : List Int} {w w' : World} (h : isZ A L w) (hb : Below w.heap.size w w') : isZ A L w' := fun hz => by
  obtain ⟨b, off, e, hl, hr⟩ := h hz
  exact ⟨b, off, e, Nat.lt_of_lt_of_le hl hb.size, fun k x hk => (hb.cell (p := ⟨b, off + k, none⟩) hl).trans (hr k x hk)⟩
theorem isZ.at {A : Option Addr} {L : List Int} {W : World} (h : isZ A L W) {k : Nat} {x : Int} (hk : L[k]? = some x) : ∃ b off, A = some ⟨b, off, none⟩ ∧ b < W.heap.size ∧ W.cell? ⟨b, off + k, none⟩ = some (.int .i64 x) := by
  obtain ⟨b, off, e, hl, hr⟩ := h (by rintro rfl; simp at hk)
  exact ⟨b, off, e, hl, hr k x hk⟩
/-- A partition of which only the size is given. -/
def pz (z : Int) : Pt := ⟨⟨#[]⟩, 0, 0, z, none, 0, 0, 0, 0, none, 0, 0, none, 0, 0, none, 0, 0⟩
def pzL (z : Int) : List Value := [.string ⟨#[]⟩, .int .i64 0, .int .i64 0, .int .i64 z, .slice none 0 0, .int .i64 0, .int .i64 0, .slice none 0 0, .slice none 0 0, .slice none 0 0]
def cellsP (l : List Int) : List Value := l.flatMap pzL
theorem pzL_len (x : Int) : (pzL x).length = 10 := rfl
theorem infoPt : (Try.prog.info? 42).map (fun i => (i.zero, i.size, i.bytes)) = some (some (.agg #[.string ⟨#[]⟩, .int .i64 0, .int .i64 0, .int .i64 0, .slice none 0 0, .int .i64 0, .int .i64 0, .slice none 0 0, .slice none 0 0, .slice none 0 0]), 10, 152) := by kernel_rfl
theorem info_md : (Try.prog.info? 24).map (·.size) = some 4 := by kernel_rfl
theorem isP_of_own {base : Nat} {W : World} {g : Option Addr} {n c : Nat} {l : List Int} (h : W.ownsRow base 42 10 (.slice g n c) n (cellsP l)) : isP g (l.map pz) W := fun hne => by
  have hlen : l.length = n := by have := h.1; rw [show (cellsP l).length = l.length * 10 from fl_len pzL_len l] at this; omega
  rcases h.2 with ⟨_, e⟩ | ⟨g', cap, cur, e, _, hg, _⟩
  · exact absurd (by rw [List.eq_nil_of_length_eq_zero (hlen.trans e)]; rfl) hne
  · simp only [Value.slice.injEq] at e
    obtain ⟨rfl, _, _⟩ := e
    refine ⟨g', 0, rfl, (Array.getElem?_eq_some_iff.1 hg).1, fun k x hk i v hv => ?_⟩
    rw [List.getElem?_map] at hk
    obtain ⟨z, hz, rfl⟩ := Option.map_eq_some_iff.1 hk
    have hi : i < 10 := (Array.getElem?_eq_some_iff.1 hv).1
    have := h.cells (g := g') rfl (k * 10 + i) v (by
      rw [show cellsP l = l.flatMap pzL from rfl, fl_get pzL_len l k i z hz hi]
      simpa [pzL, ptC, pz] using hv)
    rw [Addr.add_lit, ← Nat.add_assoc] at this
    exact this
theorem own_far {w : World} {base : Nat} {e : TypeId} {size n : Nat} {v : Value} {xs : List Value} (h : w.ownsRow base e size v n xs) {B i : Nat} (hB : B < base) (u : Value) : (w.setCell ⟨B, i, none⟩ u).ownsRow base e size v n xs := by
  obtain ⟨h1, h2⟩ := h
  refine ⟨h1, ?_⟩
  rcases h2 with h2 | ⟨g, cap, cur, e1, e2, e3, e4⟩
  · exact .inl h2
  · exact .inr ⟨g, cap, cur, e1, e2, (Below.heap_setCell w ⟨B, i, none⟩ u g (by simp; omega)).trans e3, e4⟩
set_option maxRecDepth 100000 in
set_option maxHeartbeats 4000000 in
theorem module_any (mem : Int) (B : Option Addr) (cb n : Nat) (zs : List Int) (hn : zs.length = n) (hn1 : n ≤ 1000) (w : World) (hB0 : isZ B zs w) :
    Calls Try.prog 26 #[.int .i64 mem, .slice B n cb] w fun e w' => ∃ A c, e = .returned (mdV ⟨#[]⟩ mem 0 A n c) ∧ isP A (zs.map pz) w' ∧ Below w.heap.size w w' := by
  obtain ⟨i0, hi, hz0, hz1, hz2⟩ := info_parts infoPt
  have hz : ∀ w : World, (zeroValue 24).run Try.prog w = .ok (.agg #[.string ⟨#[]⟩, .int .i64 0, .int .i64 0, .slice none 0 0]) w := fun _ => by kernel_rfl
  have HBr := Lib.hid hB0
  have HL := Lib.hid hn
  have bR := (BoxN.new w 24 #[.string ⟨#[]⟩, .int .i64 0, .int .i64 0, .slice none 0 0]).alloc (.cells #[.string ⟨#[]⟩, .int .i64 mem, .int .i64 0, .slice none 0 0] 24)
  have bM := BoxN.new (w.alloc (.cells #[.string ⟨#[]⟩, .int .i64 0, .int .i64 0, .slice none 0 0] 24)) 24 #[.string ⟨#[]⟩, .int .i64 mem, .int .i64 0, .slice none 0 0]
  rw [World.size_alloc] at bM
  have hB1 := ((Below.refl w.heap.size w).alloc (Nat.le_refl _) (.cells #[.string ⟨#[]⟩, .int .i64 0, .int .i64 0, .slice none 0 0] 24)).alloc (by simp) (.cells #[.string ⟨#[]⟩, .int .i64 mem, .int .i64 0, .slice none 0 0] 24)
  clear hB0 hn
  go_enter Try.func26, Try.ntmps26
  go_wp2_with fail
  clear hz
  go_loopw [6] (fun i wr => ∃ (k : Nat) (G : Option Addr) (cc : Nat), k ≤ n ∧ i = .int .i64 k ∧ wr.ownsRow (w.heap.size + 1 + 1) 42 10 (.slice G k cc) k (cellsP (zs.take k)) ∧ BoxN wr w.heap.size 24 #[.string ⟨#[]⟩, .int .i64 0, .int .i64 0, .slice none 0 0] ∧ BoxN wr (w.heap.size + 1) 24 #[.string ⟨#[]⟩, .int .i64 mem, .int .i64 0, .slice G k cc] ∧ Below w.heap.size w wr)
    (fun i _ => n - (intOf i).toNat)
  case atStart => exact ⟨0, none, 0, Nat.zero_le _, rfl, World.ownsRow_nil _ _ _ _, bR, bM, hB1⟩
  case round =>
    clear bR bM hB1
    obtain ⟨k, G, cc, hk, rfl, hown, bR, bM, hB⟩ := hrel
    have hl := bM.lt
    have m3 := bM.cell 3
    have f3 := bM.frozen 3
    simp at m3
    by_cases hlt : k < n
    · have hx : zs[k]? = some (zs[k]'(by rw [HL.out]; exact hlt)) := List.getElem?_eq_getElem _
      obtain ⟨z, hze⟩ : ∃ z, zs[k]'(by rw [HL.out]; exact hlt) = z := ⟨_, rfl⟩
      rw [hze] at hx
      obtain ⟨sb, so, rfl, hsb, d0⟩ := isZ.at (HBr.out.keep hB) hx
      have hls : Hid (cellsP (zs.take (k + 1)) = cellsP (zs.take k) ++ pzL z) := by unfold Hid cellsP; rw [take_snoc' hx]; simp
      have hpz : Hid (pzL z = [.string ⟨#[]⟩, .int .i64 0, .int .i64 0, .int .i64 z, .slice none 0 0, .int .i64 0, .int .i64 0, .slice none 0 0, .slice none 0 0, .slice none 0 0]) := rfl
      have hdl : decide ((k : Int) < n) = true := by simp; omega
      obtain ⟨xs, hxs⟩ : ∃ xs, cellsP (zs.take k) = xs := ⟨_, rfl⟩
      rw [hxs] at hown hls
      have own2 := (World.ownsRow.drew hown).alloc (.cells #[.string ⟨#[]⟩, .int .i64 0, .int .i64 0, .int .i64 z, .slice none 0 0, .int .i64 0, .int .i64 0, .slice none 0 0, .slice none 0 0, .slice none 0 0] 42)
      have hNews := World.news_of_block (BoxN.new wr.drew 42 #[.string ⟨#[]⟩, .int .i64 0, .int .i64 0, .int .i64 z, .slice none 0 0, .int .i64 0, .int .i64 0, .slice none 0 0, .slice none 0 0, .slice none 0 0])
      have hBs := hB.size
      have hob := own_block_le own2
      have bM2 := bM.drew.alloc (.cells #[.string ⟨#[]⟩, .int .i64 0, .int .i64 0, .int .i64 z, .slice none 0 0, .int .i64 0, .int .i64 0, .slice none 0 0, .slice none 0 0, .slice none 0 0] 42)
      have bR2 := bR.drew.alloc (.cells #[.string ⟨#[]⟩, .int .i64 0, .int .i64 0, .int .i64 z, .slice none 0 0, .int .i64 0, .int .i64 0, .slice none 0 0, .slice none 0 0, .slice none 0 0] 42)
      have hB2 := hB.drew.alloc hBs (.cells #[.string ⟨#[]⟩, .int .i64 0, .int .i64 0, .int .i64 z, .slice none 0 0, .int .i64 0, .int .i64 0, .slice none 0 0, .slice none 0 0, .slice none 0 0] 42)
      have Hgr : Hid (∀ (row : Option Nat), row = (Value.slice G k cc).ownBlock → some w.heap.size ≠ row ∧ some (w.heap.size + 1) ≠ row ∧ ∀ i, row = some i → w.heap.size ≤ i) := fun row hr => ⟨fun e => by have := hob _ (hr.symm.trans e.symm); omega, fun e => by have := hob _ (hr.symm.trans e.symm); omega, fun i e => by have := hob _ (hr.symm.trans e); omega⟩
      clear hx hze hxs hown hob bM bR hB
      go_wp2_with fail
      have hone : Hid (∀ u ∈ ([.string ⟨#[]⟩, .int .i64 0, .int .i64 0, .int .i64 z, .slice none 0 0, .int .i64 0, .int .i64 0, .slice none 0 0, .slice none 0 0, .slice none 0 0] : List Value), u.oneCell' = true) := by
        intro u hu
        simp only [List.mem_cons, List.not_mem_nil, or_false] at hu
        rcases hu with rfl | rfl | rfl | rfl | rfl | rfl | rfl | rfl | rfl | rfl <;> rfl
      have hm1 := Lib.hid (show k + 1 ≤ maxLen by unfold maxLen; omega)
      have hy1 := Lib.hid (show (k + 1) * 152 ≤ 140737488355328 by omega)
      have hws : w.heap.size + 1 + 1 ≤ wr.heap.size + 1 := by omega
      have Own2 := Lib.hid own2
      have HN2 := Lib.hid hNews
      have HB2 := Lib.hid hB2
      have HbM := Lib.hid bM2
      have HbR := Lib.hid bR2
      clear own2 hNews hB2 bM2 bR2
      go_region_law (first | (refine step_append_lies _ rfl (.tmp 16) (.tmp 22) 22 rfl (w.heap.size + 1 + 1) 42 i0 _ 10 152 Try.underlying22 hi hz0 hz1 hz2 rfl (by decide) (.slice G k cc) k xs ?_ Own2.out ⟨wr.heap.size, 0, none⟩ 1 1 [.string ⟨#[]⟩, .int .i64 0, .int .i64 0, .int .i64 z, .slice none 0 0, .int .i64 0, .int .i64 0, .slice none 0 0, .slice none 0 0, .slice none 0 0] ?_ rfl HN2.out hone.out (by decide) hm1.out hy1.out ?_ _ rfl ?_; (simp [Act.eval] <;> fail); (simp [Act.eval] <;> fail); (first | omega | (simp <;> fail) | (simp; omega)); intro g5 cap5 w5 hown5 hgrow5 hat5 hlt5; have bM5 := BoxN.grown' HbM.out hgrow5 (Hgr.out _ rfl).2.1; have hl5 := bM5.lt; have m5 := bM5.cell 3; have f5 := bM5.frozen 3; simp only [List.getElem?_toArray, List.getElem?_cons_succ, List.getElem?_cons_zero] at m5))
      all_goals
        have bR5 := BoxN.grown' HbR.out hgrow5 (Hgr.out _ rfl).1
        have hB5 := HB2.out.grown hgrow5 (by simp; omega) (Hgr.out _ rfl).2.2
        have bM6 := bM5.set1 3 (.slice (some ⟨g5, 0, none⟩) (k + 1) cap5)
        have bR6 := bR5.far (p := ⟨w.heap.size + 1, 3, none⟩) (by simp) (.slice (some ⟨g5, 0, none⟩) (k + 1) cap5)
        have hB6 := hB5.setCell (p := ⟨w.heap.size + 1, 3, none⟩) (by simp) (.slice (some ⟨g5, 0, none⟩) (k + 1) cap5)
        have own6 := own_far hown5 (B := w.heap.size + 1) (i := 3) (by omega) (.slice (some ⟨g5, 0, none⟩) (k + 1) cap5)
        clear bM5 bR5 hB5 hown5 hgrow5 hat5 hlt5 m5 f5 hl5
        go_wp2_with fail
        exact ⟨⟨k + 1, some ⟨g5, 0, none⟩, cap5, by omega, by go_num, by rw [hls.out, hpz.out]; exact own6, bR6, bM6, hB6⟩, by simp [intOf]; omega⟩
    · obtain rfl : k = n := by omega
      have hdl : decide ((k : Int) < k) = false := by simp
      rw [List.take_of_length_le (by rw [HL.out]; exact Nat.le_refl _)] at hown
      have hP := Lib.hid (isP_of_own hown)
      have b1' : wr.heap[w.heap.size + 1]? = some (.cells #[.string ⟨#[]⟩, .int .i64 mem, .int .i64 0, .slice G k cc] 24 (0, 0)) := bM
      have b0' : wr.heap[w.heap.size]? = some (.cells #[.string ⟨#[]⟩, .int .i64 0, .int .i64 0, .slice none 0 0] 24 (0, 0)) := bR
      have b2' : (wr.setRow w.heap.size #[.string ⟨#[]⟩, .int .i64 mem, .int .i64 0, .slice G k cc]).heap[w.heap.size]? = some (.cells #[.string ⟨#[]⟩, .int .i64 mem, .int .i64 0, .slice G k cc] 24 (0, 0)) := bR.setRow _
      have hB3 := below_setRow hB (Nat.le_refl w.heap.size) #[.string ⟨#[]⟩, .int .i64 mem, .int .i64 0, .slice G k cc]
      have hob := own_block_le hown
      clear m3 f3 hl
      go_wp2_with (first | (refine wpList_load_row rfl 24 _ rfl (w.heap.size + 1) rfl _ #[.string ⟨#[]⟩, .int .i64 mem, .int .i64 0, .slice G k cc] _ _ b1' Try.underlying24 rfl info_md ?_) | (refine wpList_store_rowTo rfl 24 _ _ rfl rfl w.heap.size #[.string ⟨#[]⟩, .int .i64 mem, .int .i64 0, .slice G k cc] rfl rfl _ #[.string ⟨#[]⟩, .int .i64 0, .int .i64 0, .slice none 0 0] b0' info_md rfl (by simp [Value.oneCell']) ?_))
      refine bodyPost_ret (v := mdV ⟨#[]⟩ mem 0 G k cc) (results_cell_row Try.results26 _ _ w.heap.size _ _ _ _ rfl b2' Try.underlying24 rfl info_md) rfl ⟨G, cc, rfl, hP.out.same fun a e _ => setRow_other wr w.heap.size a.block _ ?_, hB3⟩
      have := hob a.block (by subst e; rfl)
      omega
end Me
end Go.Proofs.Ytdhofaiogbpjpaa
