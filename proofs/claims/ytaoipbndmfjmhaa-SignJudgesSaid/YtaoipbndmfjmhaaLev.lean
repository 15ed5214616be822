/- The levels of a tree, handed on by a range function. -/
import Derived.Test.YtaoipbndmfjmhaaAbove
import Derived.Test.YtaoipbndmfjmhaaHandG
namespace Go.Proofs.Ytaoipbndmfjmhaa
open Go.RowKit Go.Joins
attribute [local go_sem] Oper.semAt_some

set_option maxRecDepth 100000 in
theorem levels_any (seed : BitVec 64) (h : Int) (w : World) :
    Calls Try.prog 43 #[U64 seed, .int .i64 h] w fun e w' => e = .returned (.func (.func 60) #[] #[.pointer (some ⟨w.heap.size + 1, 0, none⟩), .pointer (some ⟨w.heap.size, 0, none⟩)]) ∧
      w' = (w.alloc (.cells #[U64 seed] 22)).alloc (.cells #[.int .i64 h] 3) := by
  go_enter Try.func43, Try.ntmps43
  go_wp2
  go_ret
  exact ⟨rfl, rfl⟩

/-- What the iterator hands on: a level, as a slice that it made since the last round. -/
def LevEnc (x : List (BitVec 64)) (S : Nat) (A W : World) (v : Array Value) : Prop := ∃ g, S ≤ g ∧ A.heap.size ≤ g ∧ BoxN W g 22 (rowQ x) ∧ v = #[.slice (some ⟨g, 0, none⟩) x.length x.length]
def levL (seed : BitVec 64) (h : Nat) : List (List (BitVec 64)) := (List.range (h + 1)).map (lev (leaves seed h))
theorem levL_len (seed : BitVec 64) (h : Nat) : (levL seed h).length = h + 1 := by simp [levL]
theorem levL_get (seed : BitVec 64) (h j : Nat) (hj : j ≤ h) : (levL seed h)[j]? = some (lev (leaves seed h) j) := by
  unfold levL; rw [List.getElem?_map, List.getElem?_range (by omega)]; rfl
theorem levL_snoc (seed : BitVec 64) (h j : Nat) (hj : j ≤ h) : (levL seed h).take j ++ [lev (leaves seed h) j] = (levL seed h).take (j + 1) := (take_snoc' (levL_get seed h j hj)).symm
def lenOf : Value → Nat
  | .slice _ n _ => n
  | _ => 0

set_option maxRecDepth 100000 in
set_option maxHeartbeats 4000000 in
theorem lev1_in (n : Nat) (hn : 1 ≤ n) (l bs bh : Nat) (seed : BitVec 64) (h : Nat) (hh : h ≤ 6) (J : Nat → List (List (BitVec 64)) → World → Prop) (D : Nat → World → Prop) (W : World)
    (hY : ∀ S pre x A W1 v, W.heap.size ≤ S → S ≤ W1.heap.size → A.heap.size ≤ W1.heap.size → J S pre A → Ch W.heap.size S A W1 → pre ++ [x] <+: levL seed h → LevEnc x S A W1 v →
      YieldAt Fence.wide (n - 1) Try.prog l v W1 fun e W' => Gk W.heap.size S A W1 W' ∧ ((e = .returned (.bool true) ∧ J S (pre ++ [x]) W') ∨ (e = .returned (.bool false) ∧ D S W')))
    (hs : BoxN W bs 22 #[U64 seed]) (hhb : BoxN W bh 3 #[.int .i64 (h : Int)]) (h0 : J W.heap.size [] W) :
    CallsIn Fence.wide n Try.prog 60 #[.func (.yield l) #[] #[], .pointer (some ⟨bh, 0, none⟩), .pointer (some ⟨bs, 0, none⟩)] W fun e W' => (∃ v, e = .returned v) ∧ ∃ S, W.heap.size ≤ S ∧ (J S (levL seed h) W' ∨ D S W') := by
  have hro : Fence.wide.round = none := rfl
  have HK : Hid (∀ W : World, _) := fun W => keys_any h hh W
  have HPu : Hid (∀ (q : Int) (W : World), _) := fun q W => pubK_any seed q W
  have HAb : Hid (∀ (g : Nat) (x : List (BitVec 64)) (m : Nat) (W : World), x.length = 2 * m → m ≤ 100 → isQ (some ⟨g, 0, none⟩) x W → _) := fun g x m W hm hm2 hx => above_any (some ⟨g, 0, none⟩) (2 * m) x m hm hm2 W hx
  have HY := Lib.hid hY
  have H0 := Lib.hid h0
  clear hY h0
  have cs := hs.cell 0
  have ch := hhb.cell 0
  simp at cs ch
  have hsl := hs.lt
  have hhl := hhb.lt
  have h64 : 2 ^ h ≤ 64 := Nat.pow_le_pow_right (by decide) hh
  have hmk : Hid (∀ W : World, _) := fun W => makeW (2 ^ h) (by omega) W
  obtain ⟨N, hN⟩ : ∃ N, 2 ^ h = N := ⟨_, rfl⟩
  rw [hN] at HK hmk h64
  have HN := Lib.hid hN
  clear hN
  refine callsIn_of_wp Try.func60 rfl trivial ?_ hro
  simp only [Try.ntmps60, List.size_toArray, List.length_cons, List.length_nil, Nat.reduceAdd, Nat.reduceSub, Array.replicate_succ, Array.replicate_zero, List.push_toArray, List.append_toArray, List.nil_append, List.cons_append]
  gi_wp2_with fail
  refine ⟨trivial, ?_⟩
  (with_reducible refine (callsIn_wide.2 (HK.out _)).mono ?_); rintro e w1 ⟨rfl, hb1⟩
  have hmw := hmk.out w1
  obtain ⟨F, hF⟩ : ∃ F : Nat → BitVec 64, (fun q : Nat => pubK seed (q : Int)) = F := ⟨_, rfl⟩
  have HF : Hid (∀ q : Nat, pubK seed (q : Int) = F q) := fun q => congrFun hF q
  rw [← parV_zero N (fun i => U64 (F i)) (.int .u64 0)] at hmw
  have hlv : Hid (leaves seed h = wds N F) := by unfold Hid leaves; rw [HN.out, ← hF]
  clear hF
  obtain ⟨R, hR⟩ : ∃ R, parV N (fun i => U64 (F i)) (.int .u64 0) = R := ⟨_, rfl⟩
  rw [hR] at hmw
  have HR := Lib.hid hR
  clear hR
  have b0 : BoxN (w1.alloc (.cells (R 0) 22)) w1.heap.size 22 (R 0) := BoxN.new w1 _ _
  have hB : Below W.heap.size W (w1.alloc (.cells (R 0) 22)) := hb1.alloc hb1.size _
  have hWg : W.heap.size ≤ w1.heap.size := hb1.size
  gi_wp2_with fail
  clear hmw hb1
  generalize w1.alloc (.cells (R 0) 22) = w2 at b0 hB ⊢
  generalize w1.heap.size = gL at b0 hWg ⊢
  gi_loopw [11] (fun i wr => ∃ k : Nat, k ≤ N ∧ i = .int .i64 k ∧ BoxN wr gL 22 (R k) ∧ Below W.heap.size W wr)
    (fun i _ => (N - intOf i).toNat)
  case atStart => exact ⟨0, by omega, rfl, b0, hB⟩
  case round =>
    clear b0 hB
    obtain ⟨k, hk, rfl, b0, hB⟩ := hrel
    by_cases hlt : k < N
    · have hd : decide ((k : Int) < (N : Int)) = true := by simp; omega
      have c1 := (hB.cell (p := ⟨bs, 0, none⟩) hsl).trans cs
      have HPk := Lib.hid (HPu.out (k : Int))
      rw [HF.out] at HPk
      have hs1 : Hid ((R k).setIfInBounds k (U64 (F k)) = R (k + 1)) := by
        unfold Hid; rw [← HR.out]; exact parV_set N (fun i => U64 (F i)) _ k hlt
      have hcell : Hid ((R k)[k]? = some (.int .u64 0)) := by
        unfold Hid; rw [← HR.out, parV_get N _ _ k k hlt, if_neg (Nat.lt_irrefl k)]
      generalize F k = y at *
      gi_wp2_with fail
      refine ⟨trivial, ?_⟩
      (with_reducible refine (callsIn_wide.2 (HPk.out _)).mono ?_); rintro e w3 ⟨rfl, hb3⟩
      replace b0 := b0.keep hb3
      replace hB := hB.trans (hb3.mono hB.size)
      have c0 := b0.cell k
      rw [hcell.out] at c0
      have f0 := b0.frozen k
      have hbl := b0.lt
      have k0 := Lib.hid (b0.set1 k (U64 y))
      have kB := Lib.hid (hB.setCell (p := ⟨gL, k, none⟩) hWg (U64 y))
      clear b0 hB hb3 c1
      gi_wp2_with fail
      go_roundw
      case rel => exact ⟨k + 1, by omega, by go_num, by rw [← hs1.out]; exact k0.out, kB.out⟩
      case measure => simp [intOf]; omega
    · obtain rfl : k = N := by omega
      have hl0 : Hid (R k = rowQ (lev (leaves seed h) 0)) := by unfold Hid; rw [← HR.out, hlv.out]; exact parQ_full k F
      rw [hl0.out] at b0
      have hlen0 : Hid ((lev (leaves seed h) 0).length = k) := by unfold Hid; rw [hlv.out]; exact wds_len _ _
      gi_wp2_with fail
      gi_loopw [4] (fun v wr => ∃ (j gv : Nat) (A : World), j ≤ h ∧ v = .slice (some ⟨gv, 0, none⟩) (lev (leaves seed h) j).length (lev (leaves seed h) j).length ∧ BoxN wr gv 22 (rowQ (lev (leaves seed h) j)) ∧ W.heap.size ≤ gv ∧ A.heap.size ≤ gv ∧ A.heap.size ≤ wr.heap.size ∧ W.heap.size ≤ wr.heap.size ∧ J W.heap.size ((levL seed h).take j) A ∧ Ch W.heap.size W.heap.size A wr)
        (fun v _ => lenOf v)
      case atStart => exact ⟨0, gL, W, by omega, by rw [hlen0.out], b0, hWg, hWg, hB.size, hB.size, H0.out, Ch.below hB (Nat.le_refl _)⟩
      case round =>
        clear b0 hB
        obtain ⟨j, gv, A, hj, rfl, b0, hWgv, hAg, hAr, hWr, hJ, hCh⟩ := hrel
        have hlx := lev_len (leaves seed h) h (leaves_len seed h) j hj
        have hsn := levL_snoc seed h j hj
        have hpre : (levL seed h).take j ++ [lev (leaves seed h) j] <+: levL seed h := by rw [hsn]; exact List.take_prefix _ _
        obtain ⟨fn, tmps, assign, body, hyy, hR⟩ := HY.out W.heap.size _ _ A wr _ (Nat.le_refl _) hWr hAr hJ hCh hpre ⟨gv, hWgv, hAg, b0, rfl⟩
        rw [hsn] at hR
        have HRR := Lib.hid hR
        have hxup : Hid (up (lev (leaves seed h) j) = lev (leaves seed h) (j + 1)) := rfl
        have hend : Hid (j = h → (levL seed h).take (j + 1) = levL seed h) := fun e => by subst e; exact List.take_of_length_le (by rw [levL_len]; omega)
        have hl1 : Hid (j < h → (lev (leaves seed h) (j + 1)).length = 2 ^ (h - (j + 1))) := fun e => lev_len (leaves seed h) h (leaves_len seed h) (j + 1) (by omega)
        have hbl := b0.lt
        clear hR hpre hsn hJ hCh
        generalize (levL seed h).take j = pre0 at *
        generalize lev (leaves seed h) j = x at *
        by_cases hjh : j < h
        · obtain ⟨m, hm⟩ : ∃ m, 2 ^ (h - (j + 1)) = m := ⟨_, rfl⟩
          have hx2 : x.length = 2 * m := by rw [hlx, ← hm, show h - j = (h - (j + 1)) + 1 by omega, Nat.pow_succ]; omega
          have hm1 : 1 ≤ m := by rw [← hm]; exact Nat.one_le_two_pow
          have hm100 : m ≤ 100 := by
            have : 2 ^ (h - (j + 1)) ≤ 2 ^ 6 := Nat.pow_le_pow_right (by decide) (by omega)
            omega
          have hl2 := hl1.out hjh
          rw [hm] at hl2
          have hup := hxup.out
          have HX := Lib.hid hx2
          rw [hx2] at hyy ⊢
          have hd : decide ((1 : Int) < ((2 * m : Nat) : Int)) = true := by simp; omega
          clear hx2 hlx hm hl1 hxup hend
          generalize hnn : 2 * m = n1 at *
          have HN1 := Lib.hid hnn
          clear hnn
          gi_wp2_with fail
          refine HRR.out.mono ?_
          rintro e W3 ⟨hgk, (⟨rfl, hj3⟩ | ⟨rfl, hd3⟩)⟩
          · have b3 : BoxN W3 gv 22 (rowQ x) := (hgk.mine gv hAg hbl).trans b0
            have hbs := hgk.b
            have HAx := Lib.hid (HAb.out gv x m W3 (by rw [HX.out, HN1.out]) hm100 (isQ_box b3 fun k z hk => rowQ_get x k z hk))
            rw [HN1.out] at HAx
            clear hyy HRR hgk b3
            gi_wp2_with fail
            refine ⟨trivial, ?_⟩
            (with_reducible refine (callsIn_wide.2 HAx.out).mono ?_); rintro e w4 ⟨rfl, hbx, hb4⟩
            gi_wp2_with fail
            go_roundw
            case rel => exact ⟨j + 1, W3.heap.size, W3, by omega, by rw [hl2], by rw [← hup]; exact hbx, by omega, Nat.le_refl _, hb4.size, by have := hb4.size; omega, hj3, Ch.below hb4 (by omega)⟩
            case measure => have := HN1.out; simp only [lenOf]; omega
          · clear hyy HRR hgk
            gi_wp2_with fail
            go_end0
            exact ⟨⟨_, rfl⟩, _, Nat.le_refl _, .inr hd3⟩
        · have hje : j = h := by omega
          have hx1 : x.length = 1 := by rw [hlx, hje, Nat.sub_self, Nat.pow_zero]
          have hee := hend.out hje
          rw [hx1] at hyy ⊢
          rw [hee] at HRR
          have hd : decide ((1 : Int) < ((1 : Nat) : Int)) = false := by decide
          clear hx1 hlx hl1 hxup hend
          gi_wp2_with fail
          refine HRR.out.mono ?_
          rintro e W3 ⟨hgk, (⟨rfl, hj3⟩ | ⟨rfl, hd3⟩)⟩
          · clear hyy HRR hgk
            gi_wp2_with fail
            go_end0
            exact ⟨⟨_, rfl⟩, _, Nat.le_refl _, .inl hj3⟩
          · clear hyy HRR hgk
            gi_wp2_with fail
            go_end0
            exact ⟨⟨_, rfl⟩, _, Nat.le_refl _, .inr hd3⟩

theorem lev_hands (n : Nat) (hn : 1 ≤ n) (bs bh : Nat) (seed : BitVec 64) (h : Nat) (hh : h ≤ 6) (w : World) (hs : BoxN w bs 22 #[U64 seed]) (hhb : BoxN w bh 3 #[.int .i64 (h : Int)]) :
    HandsG Fence.wide n Try.prog 60 #[.pointer (some ⟨bh, 0, none⟩), .pointer (some ⟨bs, 0, none⟩)] LevEnc (levL seed h) w := fun l J D W hW _ _ hY h0 =>
  lev1_in n hn l bs bh seed h hh J D W hY (hs.keep hW) (hhb.keep hW) (h0 _ (Nat.le_refl _))
end Go.Proofs.Ytaoipbndmfjmhaa
