/- The contracts of ends and secrets. -/
import Derived.Test.YtaoipbndmfjmhaaStep
namespace Go.Proofs.Ytaoipbndmfjmhaa
open Go.RowKit Go.Joins

set_option maxRecDepth 100000 in
set_option maxHeartbeats 1000000 in
theorem ends_any (w : World) :
    Calls Try.prog 40 #[] w fun e w' => e = .returned (.agg (rowI (fun _ => 15) 18)) ∧ Below w.heap.size w w' := by
  have hz := zero_tI (fun _ => .int .i64 15)
  obtain ⟨R, hR⟩ : ∃ R, parV 18 (fun _ => .int .i64 15) (.int .i64 0) = R := ⟨_, rfl⟩
  rw [hR] at hz
  have HR := Lib.hid hR
  clear hR
  go_enter Try.func40, Try.ntmps40
  go_wp2_with fail
  clear hz
  have b0 : BoxN ((w.alloc (.cells (R 0) 24)).alloc (.cells (R 0) 24)) w.heap.size 24 (R 0) := (BoxN.new w _ _).alloc _
  have b1 : BoxN ((w.alloc (.cells (R 0) 24)).alloc (.cells (R 0) 24)) (w.heap.size + 1) 24 (R 0) := by
    have := BoxN.new (w.alloc (.cells (R 0) 24)) 24 (R 0)
    rwa [World.size_alloc] at this
  have hB : Below w.heap.size w ((w.alloc (.cells (R 0) 24)).alloc (.cells (R 0) 24)) := ((Below.refl _ w).alloc (Nat.le_refl _) _).alloc (by simp) _
  generalize (w.alloc (.cells (R 0) 24)).alloc (.cells (R 0) 24) = W at b0 b1 hB ⊢
  obtain ⟨g, hg⟩ : ∃ g, w.heap.size = g := ⟨_, rfl⟩
  rw [hg] at b0 b1 hB ⊢
  have HG := Lib.hid hg
  clear hg
  obtain ⟨g1, hg1⟩ : ∃ g1, g + 1 = g1 := ⟨_, rfl⟩
  rw [hg1] at b1 ⊢
  have d01 : g ≠ g1 := by omega
  have l1 : g ≤ g1 := by omega
  clear hg1
  go_loopw [3] (fun i wr => ∃ k : Nat, k ≤ 18 ∧ i = .int .i64 k ∧ BoxN wr g 24 (R 0) ∧ BoxN wr g1 24 (R k) ∧ Below g w wr)
    (fun i _ => (18 - intOf i).toNat)
  case atStart => exact ⟨0, by omega, rfl, b0, b1, hB⟩
  case round =>
    clear b0 b1 hB
    obtain ⟨k, hk, rfl, b0, b1, hB⟩ := hrel
    by_cases hlt : k < 18
    · have hd : decide ((k : Int) < 18) = true := by simp; omega
      have c1 := b1.cell k
      rw [← HR.out, parV_get 18 _ _ k k (by omega), if_neg (Nat.lt_irrefl k)] at c1
      have f1 := b1.frozen k
      have hs : Hid ((R k).setIfInBounds k (.int .i64 15) = R (k + 1)) := by
        unfold Hid; rw [← HR.out]; exact parV_set 18 (fun _ => .int .i64 15) _ k (by omega)
      have hb2 := Lib.hid (b1.set1 k (.int .i64 15))
      have hb0 := Lib.hid (b0.far (p := ⟨g1, k, none⟩) d01 (.int .i64 15))
      have hB2 := Lib.hid (hB.setCell (p := ⟨g1, k, none⟩) l1 (.int .i64 15))
      clear b0 b1 hB
      go_wp2_with fail
      go_roundw
      case rel => exact ⟨k + 1, by omega, by go_num, hb0.out, by rw [← hs.out]; exact hb2.out, hB2.out⟩
      case measure => simp [intOf]; omega
    · obtain rfl : k = 18 := by omega
      have hR18 : Hid (R 18 = rowI (fun _ => 15) 18) := by unfold Hid; rw [← HR.out, parV_full]; rfl
      have hi : (Try.prog.info? 24).map (·.size) = some (R 18).size := by rw [hR18.out, rowI_size]; exact info_tI
      have ho : (R 18).all (·.oneCell') = true := by rw [hR18.out]; exact rowI_one _ _
      have hs : (R 0).size = (R 18).size := by rw [← HR.out, parV_size, parV_size]
      have b0' : wr.heap[g]? = some (.cells (R 0) 24 (0, 0)) := b0
      have b1' : wr.heap[g1]? = some (.cells (R 18) 24 (0, 0)) := b1
      have b2' : (wr.setRow g (R 18)).heap[g]? = some (.cells (R 18) 24 (0, 0)) := BoxN.setRow b0 _
      have hB3 := below_setRow hB (Nat.le_refl g) (R 18)
      clear b0 b1 hB HR
      generalize R 0 = T0 at *
      generalize R 18 = T at *
      go_wp2_with (first | (refine wpList_load_row rfl 24 _ rfl g1 rfl _ T _ _ b1' Try.underlying24 rfl hi ?_) | (refine wpList_store_rowTo rfl 24 _ _ rfl rfl g T rfl rfl _ T0 b0' hi hs ho ?_))
      exact bodyPost_ret (v := .agg T) (results_cell_row Try.results40 _ _ g _ T _ _ rfl b2' Try.underlying24 rfl hi) rfl ⟨by rw [hR18.out], by rw [HG.out]; exact hB3⟩

set_option maxRecDepth 100000 in
set_option maxHeartbeats 1000000 in
theorem secrets_any (seed : BitVec 64) (q : Int) (w : World) :
    Calls Try.prog 39 #[U64 seed, .int .i64 q] w fun e w' => e = .returned (.agg (rowW (secr seed q) 18)) ∧ Below w.heap.size w w' := by
  obtain ⟨i0, hi0, hz0, hz1, hz2⟩ := info_parts infoB
  have HB : Hid (∀ W : World, _) := fun W => bytes_any seed W
  have HO : Hid (∀ (i : Nat) (G : Option Addr) (c : Nat) (W : World), isB G (bytes8 seed ++ [lo8 q, lo8 (q / 256), lo8 i]) W → Calls Try.prog 33 #[.slice G (8 + 3) c] W fun e w' => e = .returned (U64 (secr seed q i)) ∧ Below W.heap.size W w') := fun i G c W h => by
    have hl : (bytes8 seed ++ [lo8 q, lo8 (q / 256), lo8 i]).length = 8 + 3 := by rw [List.length_append, bytes8_len]; rfl
    have := of_any G c (bytes8 seed ++ [lo8 q, lo8 (q / 256), lo8 i]) (by rw [hl]; decide) W h
    rwa [hl] at this
  have hc : Hid (∀ i : Nat, cellsB (bytes8 seed) ++ cellsB [lo8 q, lo8 (q / 256), lo8 i] = cellsB (bytes8 seed ++ [lo8 q, lo8 (q / 256), lo8 i])) := fun i => (cellsB_append _ _).symm
  have hi2 : Hid (∀ (i : Nat) (G : Option Addr) (c base : Nat) (W : World), W.ownsRow base 5 1 (.slice G (8 + 3) c) (8 + 3) (cellsB (bytes8 seed ++ [lo8 q, lo8 (q / 256), lo8 i])) → isB G (bytes8 seed ++ [lo8 q, lo8 (q / 256), lo8 i]) W) := fun _ _ _ _ _ h => isB_of_own h
  have eq1 := wrap8 q
  have eq2 := wrap8 (q / 256)
  have hz := zero_tW (fun i => U64 (secr seed q i))
  obtain ⟨R, hR⟩ : ∃ R, parV 18 (fun i => U64 (secr seed q i)) (.int .u64 0) = R := ⟨_, rfl⟩
  rw [hR] at hz
  have HR := Lib.hid hR
  clear hR
  go_enter Try.func39, Try.ntmps39
  go_wp2_with fail
  clear hz
  have b0 : BoxN ((w.alloc (.cells (R 0) 31)).alloc (.cells (R 0) 31)) w.heap.size 31 (R 0) := (BoxN.new w _ _).alloc _
  have b1 : BoxN ((w.alloc (.cells (R 0) 31)).alloc (.cells (R 0) 31)) (w.heap.size + 1) 31 (R 0) := by
    have := BoxN.new (w.alloc (.cells (R 0) 31)) 31 (R 0)
    rwa [World.size_alloc] at this
  have hB : Below w.heap.size w ((w.alloc (.cells (R 0) 31)).alloc (.cells (R 0) 31)) := ((Below.refl _ w).alloc (Nat.le_refl _) _).alloc (by simp) _
  generalize (w.alloc (.cells (R 0) 31)).alloc (.cells (R 0) 31) = W at b0 b1 hB ⊢
  obtain ⟨g, hg⟩ : ∃ g, w.heap.size = g := ⟨_, rfl⟩
  rw [hg] at b0 b1 hB ⊢
  have HG := Lib.hid hg
  clear hg
  obtain ⟨g1, hg1⟩ : ∃ g1, g + 1 = g1 := ⟨_, rfl⟩
  rw [hg1] at b1 ⊢
  have d01 : g ≠ g1 := by omega
  have l1 : g ≤ g1 := by omega
  clear hg1
  go_loopw [7] (fun i wr => ∃ k : Nat, k ≤ 18 ∧ i = .int .i64 k ∧ BoxN wr g 31 (R 0) ∧ BoxN wr g1 31 (R k) ∧ Below g w wr)
    (fun i _ => (18 - intOf i).toNat)
  case atStart => exact ⟨0, by omega, rfl, b0, b1, hB⟩
  case round =>
    clear b0 b1 hB
    obtain ⟨k, hk, rfl, b0, b1, hB⟩ := hrel
    by_cases hlt : k < 18
    · have hd : decide ((k : Int) < 18) = true := by simp; omega
      have c1 := b1.cell k
      rw [← HR.out, parV_get 18 _ _ k k (by omega), if_neg (Nat.lt_irrefl k)] at c1
      have hs : Hid ((R k).setIfInBounds k (U64 (secr seed q k)) = R (k + 1)) := by
        unfold Hid; rw [← HR.out]; exact parV_set 18 (fun i => U64 (secr seed q i)) _ k (by omega)
      have ek := wrap8 (k : Int)
      have HOk := Lib.hid (HO.out k)
      have hck := Lib.hid (hc.out k)
      have hi2k := Lib.hid (hi2.out k)
      have hone := cellsB_one [lo8 q, lo8 (q / 256), lo8 (k : Int)]
      have hlit : Hid (∀ W : World, isB (some ⟨W.heap.size, 0, none⟩) [lo8 q, lo8 (q / 256), lo8 (k : Int)] (W.alloc (.cells #[U8 (lo8 q), U8 (lo8 (q / 256)), U8 (lo8 (k : Int))] 5))) := fun W => isB_lit W _ _ rfl
      clear c1
      generalize secr seed q k = x at hs HOk
      generalize lo8 (k : Int) = uk at *
      go_wp2_with fail
      (with_reducible refine (HB.out _).mono ?_); rintro e w1 ⟨rfl, h1, hb1⟩
      have hge : g ≤ wr.heap.size := by have := hB.size; rw [HG.out] at this; exact this
      have g1lt := b1.lt
      have g0lt := b0.lt
      replace b0 := b0.keep hb1
      replace b1 := b1.keep hb1
      replace hB := hB.trans (hb1.mono hge)
      have hzz := hb1.size
      generalize lo8 q = uq at *
      generalize lo8 (q / 256) = uq2 at *
      generalize wr.heap.size = n0 at *
      clear hb1
      have h1a := h1.alloc (.cells #[U8 uq, U8 uq2, U8 uk] 5)
      have hnw := (hlit.out w1).news
      have lnw : (cellsB [uq, uq2, uk]).length = 3 * 1 := rfl
      replace b0 := b0.alloc (.cells #[U8 uq, U8 uq2, U8 uk] 5)
      replace b1 := b1.alloc (.cells #[U8 uq, U8 uq2, U8 uk] 5)
      replace hB := hB.alloc (Nat.le_trans hge hzz) (.cells #[U8 uq, U8 uq2, U8 uk] 5)
      have hzb : n0 ≤ (w1.alloc (.cells #[U8 uq, U8 uq2, U8 uk] 5)).heap.size := by simp; omega
      have hbz := hB.size
      generalize hN : cellsB [uq, uq2, uk] = nw at *
      have HN := Lib.hid hN
      clear hN h1 hlit
      go_wp2_with (at_builtin; refine app_any _ rfl _ _ 42 rfl n0 5 i0 _ 1 1 Try.underlying42 hi0 hz0 hz1 hz2 rfl (by decide) (.slice (some ⟨n0, 0, none⟩) 8 8) 8 _ rfl h1a (some ⟨w1.heap.size, 0, none⟩) 3 3 nw rfl lnw (fun _ => hnw (by simp)) hone (by unfold maxLen; omega) (by omega) hzb ?_; intro v3 w3 hown3 hg3; have hb0 := (hg3.block g b0.lt (fun e => Nat.ne_of_lt g0lt (Option.some.inj e))).trans b0; have hb1 := (hg3.block g1 b1.lt (fun e => Nat.ne_of_lt g1lt (Option.some.inj e))).trans b1; have hB3 := hB.grown hg3 (Nat.le_trans hge hzb) (fun k e => by cases e; exact hge); rw [hck.out] at hown3; obtain ⟨g3, cg3, rfl⟩ := own_slice hown3; have hi3 := hi2k.out _ _ _ _ hown3)
      clear h1a hown3 hg3 hnw b0 b1 hB
      (with_reducible refine (HOk.out _ _ _ hi3).mono ?_); rintro e w4 ⟨rfl, hb4⟩
      replace hb0 := BoxN.keep (B := g) hb0 hb4
      replace hb1 := BoxN.keep (B := g1) hb1 hb4
      replace hB3 := hB3.trans (hb4.mono (by have := hB3.size; rw [HG.out] at this; exact this))
      have c1 := hb1.cell k
      rw [← HR.out, parV_get 18 _ _ k k (by omega), if_neg (Nat.lt_irrefl k)] at c1
      have f1 := hb1.frozen k
      have hbl := hb1.lt
      have k2 := Lib.hid (hb1.set1 k (U64 x))
      have k0 := Lib.hid (hb0.far (p := ⟨g1, k, none⟩) d01 (U64 x))
      have k3 := Lib.hid (hB3.setCell (p := ⟨g1, k, none⟩) l1 (U64 x))
      clear hb0 hb1 hB3 hb4 hi3
      go_wp2_with fail
      go_roundw
      case rel => exact ⟨k + 1, by omega, by go_num, k0.out, by rw [← hs.out]; exact k2.out, k3.out⟩
      case measure => simp [intOf]; omega
    · obtain rfl : k = 18 := by omega
      have hR18 : Hid (R 18 = rowW (secr seed q) 18) := by unfold Hid; rw [← HR.out, parV_full]; rfl
      have hi : (Try.prog.info? 31).map (·.size) = some (R 18).size := by rw [hR18.out, rowW_size]; exact info_tW
      have ho : (R 18).all (·.oneCell') = true := by rw [hR18.out]; exact rowW_one _ _
      have hs : (R 0).size = (R 18).size := by rw [← HR.out, parV_size, parV_size]
      have b0' : wr.heap[g]? = some (.cells (R 0) 31 (0, 0)) := b0
      have b1' : wr.heap[g1]? = some (.cells (R 18) 31 (0, 0)) := b1
      have b2' : (wr.setRow g (R 18)).heap[g]? = some (.cells (R 18) 31 (0, 0)) := BoxN.setRow b0 _
      have hB3 := below_setRow hB (Nat.le_refl g) (R 18)
      clear b0 b1 hB HR
      generalize R 0 = T0 at *
      generalize R 18 = T at *
      go_wp2_with (first | (refine wpList_load_row rfl 31 _ rfl g1 rfl _ T _ _ b1' Try.underlying31 rfl hi ?_) | (refine wpList_store_rowTo rfl 31 _ _ rfl rfl g T rfl rfl _ T0 b0' hi hs ho ?_))
      exact bodyPost_ret (v := .agg T) (results_cell_row Try.results39 _ _ g _ T _ _ rfl b2' Try.underlying31 rfl hi) rfl ⟨by rw [hR18.out], by rw [HG.out]; exact hB3⟩
end Go.Proofs.Ytaoipbndmfjmhaa
