/- mark, markRegion, LentRegions. -/
import Derived.Test.YtdhofaiogbpjpaaRow
import Derived.Test.YtdhofaiogbpjpaaEq
namespace Go.Proofs.Ytdhofaiogbpjpaa
open Go.RowKit Go.Joins
namespace Me
/-- What lies behind a lent slice. -/
def mkR (i : Nat) : Rg := ⟨0, 8000024 + i, 0⟩
def marks (k : Nat) : List Rg := (List.range k).map mkR
theorem marks_len (k : Nat) : (marks k).length = k := by simp [marks]
theorem marks_succ (k : Nat) : marks (k + 1) = marks k ++ [mkR k] := by simp [marks, List.range_succ]
theorem marks_get (k i : Nat) (h : i < k) : (marks k)[i]? = some (mkR i) := by simp [marks, h]
theorem mark_any (i : Nat) (hi : i ≤ 1000) (w : World) : Calls Try.prog 50 #[.int .i64 1, .int .i64 i] w fun e w' => e = .returned (.int .i64 (8000024 + i)) ∧ w' = w := by
  go_enter Try.func50, Try.ntmps50
  go_wp2_with fail
  go_ret
  exact ⟨rfl, rfl⟩
set_option maxHeartbeats 2000000 in
theorem markR_any (i : Nat) (hi : i ≤ 1000) (w : World) : Calls Try.prog 45 #[.int .i64 1, .int .i64 i] w fun e w' => e = .returned (rgV (mkR i)) ∧ Below w.heap.size w w' := by
  have hz : ∀ w : World, (zeroValue 45).run Try.prog w = .ok (.agg #[.int .i64 0, .int .i64 0, .int .i64 0]) w := fun _ => by kernel_rfl
  have HM : Hid (∀ W : World, _) := fun W => mark_any i hi W
  have b1 := BoxN.new w 45 #[.int .i64 0, .int .i64 0, .int .i64 0]
  have hB := (Below.refl w.heap.size w).alloc (Nat.le_refl _) (.cells #[.int .i64 0, .int .i64 0, .int .i64 0] 45)
  go_enter Try.func45, Try.ntmps45
  go_wp2_with fail
  (with_reducible refine (HM.out _).mono ?_); rintro e w1 ⟨rfl, rfl⟩
  clear hz
  have b1' : (w.alloc (.cells #[.int .i64 0, .int .i64 0, .int .i64 0] 45)).heap[w.heap.size]? = some (.cells #[.int .i64 0, .int .i64 0, .int .i64 0] 45 (0, 0)) := b1
  have b2' : ((w.alloc (.cells #[.int .i64 0, .int .i64 0, .int .i64 0] 45)).setRow w.heap.size #[.int .i64 0, .int .i64 (8000024 + i), .int .i64 0]).heap[w.heap.size]? = some (.cells #[.int .i64 0, .int .i64 (8000024 + i), .int .i64 0] 45 (0, 0)) := b1.setRow _
  have hB3 := below_setRow hB (Nat.le_refl w.heap.size) #[.int .i64 0, .int .i64 (8000024 + i), .int .i64 0]
  go_wp2_with (refine wpList_store_rowTo rfl 45 _ _ rfl rfl w.heap.size #[.int .i64 0, .int .i64 (8000024 + i), .int .i64 0] rfl rfl _ #[.int .i64 0, .int .i64 0, .int .i64 0] b1' info_rg rfl (by simp [Value.oneCell']) ?_)
  exact bodyPost_ret (v := rgV (mkR i)) (results_cell_row Try.results45 _ _ w.heap.size _ _ _ _ rfl b2' Try.underlying45 rfl info_rg) rfl ⟨rfl, hB3⟩
set_option maxRecDepth 100000 in
set_option maxHeartbeats 4000000 in
theorem lent_any (A : Option Addr) (cap n : Nat) (L : List Rg) (hn : L.length = n) (hn1 : n ≤ 100000) (w : World) (hA : isG A L w) :
    Calls Try.prog 28 #[.slice A n cap] w fun e w' => ∃ G c, e = .returned (.slice G n c) ∧ n + 12 ≤ c ∧ isG G (L ++ marks 12) w' ∧ Below w.heap.size w w' := by
  obtain ⟨i0, hi, hz0, hz1, hz2⟩ := info_parts infoG
  have HM : Hid (∀ (i : Nat) (W : World), i ≤ 1000 → _) := fun i W h => markR_any i h W
  go_enter Try.func28, Try.ntmps28
  go_wp2_with (first
    | (refine wpList_make_own _ rfl _ _ 25 rfl w.heap.size 45 i0 _ 3 Try.underlying25 hi hz0 hz1 .i64 .i64 _ (n + 12) rfl rfl (by omega) (by rw [hz2]; omega) (by unfold maxLen; omega) (Nat.le_refl _) ?_; intro w1 hown1 hg1; have hB1 : Below w.heap.size w w1 := (Below.refl _ w).grown hg1 (Nat.le_refl _) (fun _ h => by cases h); have hl1 : n ≠ 0 → _ := fun h0 => (hA.keep hB1).news (by rw [hn]; exact h0))
    | (at_builtin; refine app_any _ rfl _ _ 25 rfl w.heap.size 45 i0 _ 3 24 Try.underlying25 hi hz0 hz1 hz2 rfl (by decide) (.slice (some ⟨w.heap.size, 0, none⟩) 0 (n + 12)) 0 [] rfl hown1 A n cap (cellsG L) rfl (by rw [cellsG_len, hn]) hl1 (cellsG_one L) (by unfold maxLen; omega) (by omega) hB1.size ?_; intro v' w2 hown2 hg2))
  have hB2 : Below w.heap.size w w2 := hB1.grown hg2 hB1.size (fun k e => own_block_le hown1 k e)
  rw [Nat.zero_add, List.nil_append] at hown2
  clear hown1 hg1 hB1 hl1 hg2
  obtain ⟨g, cg, rfl⟩ := own_slice hown2
  go_wp2_with fail
  go_loopw [3, 4] (fun v i wr => ∃ (k : Nat) (g : Option Addr) (cg : Nat), k ≤ 12 ∧ i = .int .i64 k ∧ v = .slice g (n + k) cg ∧ wr.ownsRow w.heap.size 45 3 (.slice g (n + k) cg) (n + k) (cellsG (L ++ marks k)) ∧ Below w.heap.size w wr)
    (fun _ i _ => 12 - (intOf i).toNat)
  case atStart => exact ⟨0, g, cg, by omega, rfl, rfl, by simpa [marks] using hown2, hB2⟩
  case round =>
    clear hown2 hB2
    obtain ⟨k, g, cg, hk, rfl, rfl, hown, hB⟩ := hrel
    by_cases hlt : k < 12
    · have hdl : decide ((k : Int) < 12) = true := by simp; omega
      have ht : Hid (cellsG (L ++ marks (k + 1)) = cellsG (L ++ marks k) ++ rgL (mkR k)) := by unfold Hid; rw [marks_succ, ← List.append_assoc, cellsG_append]; simp [cellsG]
      have HMk := Lib.hid (HM.out k wr (by omega))
      obtain ⟨xs, hxs⟩ : ∃ xs, cellsG (L ++ marks k) = xs := ⟨_, rfl⟩
      rw [hxs] at hown ht
      have hrl : Hid (rgL (mkR k) = [.int .i64 0, .int .i64 (8000024 + k), .int .i64 0]) := rfl
      clear hxs HM
      simp only [rgV, mkR] at HMk
      go_wp2_with fail
      (with_reducible refine (HMk.out).mono ?_); rintro _ w1 ⟨rfl, hb1⟩
      have hown1 := (own_below hown hb1).alloc (.cells #[.int .i64 0, .int .i64 (8000024 + (k : Nat)), .int .i64 0] 45)
      have hB1 := (hB.trans (hb1.mono hB.size)).alloc (hB.trans (hb1.mono hB.size)).size (.cells #[.int .i64 0, .int .i64 (8000024 + (k : Nat)), .int .i64 0] 45)
      have hNews := Lib.hid (World.news_of_block (BoxN.new w1 45 #[.int .i64 0, .int .i64 (8000024 + (k : Nat)), .int .i64 0]))
      have hwb := own_block_le hown1
      have hwz := (hB.trans (hb1.mono hB.size)).size
      clear hown hb1 hB HMk
      go_wp2_with (at_builtin; refine app_any _ rfl _ _ 25 rfl w.heap.size 45 i0 _ 3 24 Try.underlying25 hi hz0 hz1 hz2 rfl (by decide) (.slice g (n + k) cg) (n + k) xs rfl hown1 (some ⟨w1.heap.size, 0, none⟩) 1 1 [.int .i64 0, .int .i64 (8000024 + (k : Nat)), .int .i64 0] rfl rfl (fun _ => ⟨_, rfl, hNews.out⟩) (by simp [Value.oneCell']) (by unfold maxLen; omega) (by omega) (by simp; omega) ?_; intro v2 w4 hown4 hg4; have hB4 := hB1.grown hg4 (by simp; omega) hwb; obtain ⟨g2, c2, rfl⟩ := own_slice hown4)
      go_roundw
      case rel => exact ⟨k + 1, g2, c2, by omega, by go_num, rfl, by rw [ht.out, hrl.out]; exact hown4, hB4⟩
      case measure => simp [intOf]; omega
    · obtain rfl : k = 12 := by omega
      have hr := Lib.hid (isG_of_own hown)
      have hcap := own_cap hown
      have hdl : decide ((12 : Int) < 12) = false := by decide
      rcases hown.2 with ⟨h0, -⟩ | ⟨g', c', cur, h0, -⟩
      · simp at h0
      · simp only [Value.slice.injEq, true_and] at h0
        obtain ⟨rfl, rfl⟩ := h0
        clear hown
        go_wp2_with fail
        go_ret
        exact ⟨_, _, rfl, hcap, hr.out, hB⟩
end Me
end Go.Proofs.Ytdhofaiogbpjpaa
