/- The law package's awake returns true. -/
import Derived.Test.YtaanhddgmiggfaaGreatYes
namespace Go.Proofs.YtaanhddgmiggfaaGreat
open Go.RowKit Go.Joins Go.Shelf Go.Sort Num

instance (x y : Buck) : Decidable (x.bef y) := inferInstanceAs (Decidable (_ ∧ _))
instance (x y : Buck) : Decidable (x.le y) := inferInstanceAs (Decidable (_ ∧ _))
namespace Aw
def q1 : Buck := mkBuck 10 2
def q2 : Buck := mkBuck 30 (1 / 2)
def q3 : Buck := mkBuck 40 1
def q4 : Buck := mkBuck 5 1
def s1 : Buck := mkBuck 20 2
def s2 : Buck := mkBuck (65 / 2) (1 / 2)
def z1 : Buck := mkBuck 15 3
def z2 : Buck := mkBuck 35 (3 / 2)
theorem norm_c : normL [q1, q2, q3] = [q1, q2] := nf_uniq ⟨by decide +kernel, by decide +kernel, by decide +kernel⟩
theorem norm_d : normL [q4] = [q4] := nf_uniq ⟨by decide +kernel, by decide +kernel, by decide +kernel⟩
theorem norm_s : normL ([q1, q2, q3].map (shiftB 5)) = [s1, s2] := nf_uniq ⟨by decide +kernel, by decide +kernel, by decide +kernel⟩
theorem norm_z : normL ((pairsL [q1, q2] [q4]).map addB) = [z1, z2] := nf_uniq ⟨by decide +kernel, by decide +kernel, by decide +kernel⟩
theorem ok_z : ∀ p ∈ pairsL [q1, q2] [q4], oka p := by decide +kernel
theorem ok_s : ∀ x ∈ [q1, q2, q3], okv x 5 := by decide +kernel
theorem ok_b : ∀ p ∈ twosL [q1, q2], okm p := by decide +kernel
theorem ok_t : ∀ x ∈ [q1, q2, q3], okv x 20 := by decide +kernel
theorem at5 : (minV [q1, q2, q3] 5).num = 20 ∧ ((minV [q1, q2, q3] 5).den : Int) = 1 := by decide +kernel
theorem at20 : (minV [q1, q2, q3] 20).num = 40 ∧ ((minV [q1, q2, q3] 20).den : Int) = 1 := by decide +kernel
theorem rate_c : (rateL [q1, q2, q3]).num = 1 ∧ ((rateL [q1, q2, q3]).den : Int) = 2 := by decide +kernel
theorem brk_c : brkL [q1, q2] = [mkPt (40 / 3)] := by
  unfold brkL
  rw [show (twosL [q1, q2]).map meetP = [mkPt (40 / 3)] by decide +kernel]
  rw [show sortP [mkPt (40 / 3)] = [mkPt (40 / 3)] from List.mergeSort_singleton _]
  rfl
theorem cells_c : cellsOf [q1, q2, q3] = [.int .i64 10, .int .i64 1, .int .i64 2, .int .i64 1, .int .i64 30, .int .i64 1, .int .i64 1, .int .i64 2, .int .i64 40, .int .i64 1, .int .i64 1, .int .i64 1] := by kernel_rfl
theorem cells_n : cellsOf [q1, q2] = [.int .i64 10, .int .i64 1, .int .i64 2, .int .i64 1, .int .i64 30, .int .i64 1, .int .i64 1, .int .i64 2] := by kernel_rfl
theorem cells_d : cellsOf [q4] = [.int .i64 5, .int .i64 1, .int .i64 1, .int .i64 1] := by kernel_rfl
theorem cells_s : cellsOf [s1, s2] = [.int .i64 20, .int .i64 1, .int .i64 2, .int .i64 1, .int .i64 65, .int .i64 2, .int .i64 1, .int .i64 2] := by kernel_rfl
theorem cells_z : cellsOf [z1, z2] = [.int .i64 15, .int .i64 1, .int .i64 3, .int .i64 1, .int .i64 35, .int .i64 1, .int .i64 3, .int .i64 2] := by kernel_rfl

theorem isC_take {A : Option Addr} {cap : Nat} {c d : List Buck} {W : World} (h : isC A cap c W) (hd : d <+: c) : isC A cap d W := by
  refine ⟨A, cap, rfl, fun hne => ?_⟩
  obtain ⟨t, rfl⟩ := hd
  obtain ⟨b, off, e1, e2, e3⟩ := h.cells (by simp [hne])
  exact ⟨b, off, e1, e2, fun j x hx => e3 j x (by rw [List.getElem?_append_left (List.getElem?_eq_some_iff.1 hx).1]; exact hx)⟩
theorem pt_cells {A : Option Addr} {W : World} (h : isP A [mkPt (40 / 3)] W) : ∃ g, A = some ⟨g, 0, none⟩ ∧ W.cell? ⟨g, 0, none⟩ = some (.int .i64 40) ∧ W.cell? ⟨g, 1, none⟩ = some (.int .i64 3) := by
  obtain ⟨g, e, _, hr⟩ := h (by simp)
  obtain ⟨h0, h1⟩ := hr 0 _ rfl
  rw [show (mkPt (40 / 3)).q.num = 40 by decide +kernel] at h0
  rw [show ((mkPt (40 / 3)).q.den : Int) = 3 by decide +kernel] at h1
  exact ⟨g, e, by simpa using h0, by simpa using h1⟩
theorem _root_.Go.Proofs.YtaanhddgmiggfaaGreat.Kept.pack {w W : World} {l : List (World → Prop)} (k : Kept w l W) : ∃ L, Hid (L = l) ∧ Kept w L W := ⟨l, rfl, k⟩

set_option maxRecDepth 100000 in
set_option maxHeartbeats 8000000 in
theorem walk (w : World) : Calls Tryz.prog 11 #[] w fun e w' => e = .returned (.bool true) ∧ Below w.heap.size w w' := by
  have HN : Hid (∀ (n d : Int) (W : World), _) := fun n d W => num_any n d W
  have HBk : Hid (∀ (a b c d : Int) (W : World), _) := fun a b c d W => bucket_any a b c d W
  go_enter Tryz.func11, Tryz.ntmps11
  go_wp2_with fail
  (with_reducible refine (HN.out 1 1 _).mono ?_); rintro e w1 ⟨rfl, hb⟩
  have K := (((Kept.start w).keep hb.b).alloc (.cells #[.int .i64 1, .int .i64 1] 25)).add (cl_isR w1.heap.size 1 1) (Has.new w1 1 1 25)
  clear hb
  go_wp2_with fail
  generalize w1.alloc (.cells #[.int .i64 1, .int .i64 1] 25) = W0 at K ⊢
  generalize w1.heap.size = b1 at K ⊢
  have T0 : W0.cell? ⟨b1, 0, none⟩ = some (.int .i64 1) ∧ W0.cell? ⟨b1, 1, none⟩ = some (.int .i64 1) ∧ Kept w [isR b1 1 1] W0 := ⟨(K.get 0 rfl).c0, (K.get 0 rfl).c1, K⟩
  have D0 : W0.drew.cell? ⟨b1, 0, none⟩ = some (.int .i64 1) ∧ W0.drew.cell? ⟨b1, 1, none⟩ = some (.int .i64 1) ∧ Kept w [isR b1 1 1] W0.drew := ⟨(K.drew.get 0 rfl).c0, (K.drew.get 0 rfl).c1, K.drew⟩
  have H1 : Hid (∀ W W' : World, Lays W W' → Kept w [isR b1 1 1] W → W'.cell? ⟨b1, 0, none⟩ = some (.int .i64 1) ∧ W'.cell? ⟨b1, 1, none⟩ = some (.int .i64 1) ∧ Kept w [isR b1 1 1] W') := fun W W' h k => ⟨((k.keep h.b).get 0 rfl).c0, ((k.keep h.b).get 0 rfl).c1, k.keep h.b⟩
  have H2 : Hid (∀ W : World, Kept w [isR b1 1 1] W → (W.alloc (.cells #[.int .i64 10, .int .i64 1, .int .i64 2, .int .i64 1, .int .i64 30, .int .i64 1, .int .i64 1, .int .i64 2, .int .i64 40, .int .i64 1, .int .i64 1, .int .i64 1] 80)).cell? ⟨b1, 0, none⟩ = some (.int .i64 1) ∧ (W.alloc (.cells #[.int .i64 10, .int .i64 1, .int .i64 2, .int .i64 1, .int .i64 30, .int .i64 1, .int .i64 1, .int .i64 2, .int .i64 40, .int .i64 1, .int .i64 1, .int .i64 1] 80)).cell? ⟨b1, 1, none⟩ = some (.int .i64 1) ∧ Kept w [isR b1 1 1] (W.alloc (.cells #[.int .i64 10, .int .i64 1, .int .i64 2, .int .i64 1, .int .i64 30, .int .i64 1, .int .i64 1, .int .i64 2, .int .i64 40, .int .i64 1, .int .i64 1, .int .i64 1] 80))) := fun W k => ⟨((k.alloc _).get 0 rfl).c0, ((k.alloc _).get 0 rfl).c1, k.alloc _⟩
  go_region_held3 (fun w' => w'.cell? ⟨b1, 0, none⟩ = some (.int .i64 1) ∧ w'.cell? ⟨b1, 1, none⟩ = some (.int .i64 1) ∧ Kept w [isR b1 1 1] w')
    (first
      | exact T0
      | exact D0
      | (go_split_ands; apply H1.out; assumption; assumption)
      | (go_split_ands; apply H2.out; assumption))
    (first
      | (go_at_call 54; (with_reducible refine (HN.out _ _ _).mono ?_); rintro e w1 ⟨rfl, hb⟩)
      | (go_at_call 55; (with_reducible refine (HBk.out _ _ _ _ _).mono ?_); rintro e w1 ⟨rfl, hb⟩))
  go_split_ands
  have K1 : Kept w [isR b1 1 1] (w1.alloc (.cells #[.int .i64 10, .int .i64 1, .int .i64 2, .int .i64 1, .int .i64 30, .int .i64 1, .int .i64 1, .int .i64 2, .int .i64 40, .int .i64 1, .int .i64 1, .int .i64 1] 80)) := by assumption
  replace K := K1.add (cl_isC (some ⟨w1.heap.size, 0, none⟩) 3 [q1, q2, q3]) (isC.lit w1 [q1, q2, q3] 3 _ cells_c.symm)
  clear K1
  generalize w1.alloc (.cells #[.int .i64 10, .int .i64 1, .int .i64 2, .int .i64 1, .int .i64 30, .int .i64 1, .int .i64 1, .int .i64 2, .int .i64 40, .int .i64 1, .int .i64 1, .int .i64 1] 80) = W1 at *
  generalize w1.heap.size = g at *
  have hN := norm_yes 2 (K.get 0 rfl) (by decide) (by decide) norm_c rfl 3 rfl
  go_wp2_with fail
  (with_reducible refine hN.mono ?_); rintro e W2 ⟨A2, c2, rfl, hi, hb⟩
  replace K := (K.keep hb).add (cl_isC A2 c2 [q1, q2]) hi
  clear hN hi hb
  have hN := breaks_yes 1 (K.get 1 rfl) (by decide) (by decide) norm_c ok_b brk_c rfl 3 rfl
  go_wp2_with fail
  (with_reducible refine hN.mono ?_); rintro e W3 ⟨A3, c3, rfl, hi, hb⟩
  replace K := (K.keep hb).add (cl_isP A3 [mkPt (40 / 3)]) hi
  clear hN hi hb
  go_wp2_with fail
  (with_reducible refine (HN.out _ _ _).mono ?_); rintro e W4 ⟨rfl, hb⟩
  replace K := K.keep hb.b
  clear hb
  have hN := at_yes 5 (K.get 2 rfl) (by decide) (by decide) (by constructor <;> decide) (by decide) ok_s 3 rfl 5 1 20 1 rfl rfl at5.1 at5.2
  go_wp2_with fail
  (with_reducible refine hN.mono ?_); rintro e W5 ⟨rfl, hb⟩
  replace K := ((K.keep hb).alloc (.cells #[.int .i64 20, .int .i64 1] 25)).add (cl_isR W5.heap.size 20 1) (Has.new W5 20 1 25)
  clear hN hb
  go_wp2_with fail
  (with_reducible refine (HN.out _ _ _).mono ?_); rintro e W6 ⟨rfl, hb⟩
  replace K := K.keep hb.b
  clear hb
  generalize W5.heap.size = bx at K ⊢
  have hN := at_yes 20 (K.get 3 rfl) (by decide) (by decide) (by constructor <;> decide) (by decide) ok_t 3 rfl 20 1 40 1 rfl rfl at20.1 at20.2
  go_wp2_with fail
  (with_reducible refine hN.mono ?_); rintro e W7 ⟨rfl, hb⟩
  replace K := ((K.keep hb).alloc (.cells #[.int .i64 40, .int .i64 1] 25)).add (cl_isR W7.heap.size 40 1) (Has.new W7 40 1 25)
  clear hN hb
  go_wp2_with fail
  (with_reducible refine (HN.out _ _ _).mono ?_); rintro e W8 ⟨rfl, hb⟩
  replace K := K.keep hb.b
  clear hb
  generalize W7.heap.size = by' at K ⊢
  have hN := shift_yes 5 2 (K.get 4 rfl) (by decide) (by decide) (by constructor <;> decide) (by decide) ok_s norm_s rfl 3 rfl 5 1 rfl rfl
  go_wp2_with fail
  (with_reducible refine hN.mono ?_); rintro e W9 ⟨A9, c9, rfl, hi, hb⟩
  replace K := (K.keep hb).add (cl_isC A9 c9 [s1, s2]) hi
  clear hN hi hb
  go_wp2_with fail
  obtain ⟨L, hL, KL⟩ := K.pack
  have hget : ∀ W, Kept w L W → Has W b1 1 1 := fun W k => by rw [hL.out] at k; exact k.get 6 rfl
  have Hget := Lib.hid hget
  clear K hget
  have HSum : Hid (∀ v1 : World, Kept w L (v1.alloc (.cells #[.int .i64 5, .int .i64 1, .int .i64 1, .int .i64 1] 80)) → Calls Tryz.prog 21 #[.slice (some ⟨g, 0, none⟩) 3 3, .slice (some ⟨v1.heap.size, 0, none⟩) 1 1] (v1.alloc (.cells #[.int .i64 5, .int .i64 1, .int .i64 1, .int .i64 1] 80)) fun e w' => ∃ A' c', e = .returned (.tuple #[.slice A' 2 c', .int .i64 0]) ∧ isC A' c' [z1, z2] w' ∧ Below (v1.alloc (.cells #[.int .i64 5, .int .i64 1, .int .i64 1, .int .i64 1] 80)).heap.size (v1.alloc (.cells #[.int .i64 5, .int .i64 1, .int .i64 1, .int .i64 1] 80)) w') := fun v1 k => by
    rw [hL.out] at k
    exact sum_yes 2 (k.get 5 rfl) (by decide) (by decide) (isC.lit v1 [q4] 1 _ cells_d.symm) (by decide) (by decide) norm_c norm_d (by decide) ok_z norm_z rfl 3 1 rfl rfl
  have HAll : Hid (∀ W : World, Kept w L W → W.cell? ⟨b1, 0, none⟩ = some (.int .i64 1) ∧ W.cell? ⟨b1, 1, none⟩ = some (.int .i64 1) ∧ Kept w L W) := fun W k => ⟨(Hget.out _ k).c0, (Hget.out _ k).c1, k⟩
  have T1 := HAll.out _ KL
  have D1 := HAll.out _ KL.drew
  have H3 : Hid (∀ W W' : World, Lays W W' → Kept w L W → W'.cell? ⟨b1, 0, none⟩ = some (.int .i64 1) ∧ W'.cell? ⟨b1, 1, none⟩ = some (.int .i64 1) ∧ Kept w L W') := fun W W' h k => HAll.out _ (k.keep h.b)
  have H4 : Hid (∀ W W' : World, Below W.heap.size W W' → Kept w L W → W'.cell? ⟨b1, 0, none⟩ = some (.int .i64 1) ∧ W'.cell? ⟨b1, 1, none⟩ = some (.int .i64 1) ∧ Kept w L W') := fun W W' h k => HAll.out _ (k.keep h)
  have H5 : Hid (∀ W : World, Kept w L W → (W.alloc (.cells #[.int .i64 5, .int .i64 1, .int .i64 1, .int .i64 1] 80)).cell? ⟨b1, 0, none⟩ = some (.int .i64 1) ∧ (W.alloc (.cells #[.int .i64 5, .int .i64 1, .int .i64 1, .int .i64 1] 80)).cell? ⟨b1, 1, none⟩ = some (.int .i64 1) ∧ Kept w L (W.alloc (.cells #[.int .i64 5, .int .i64 1, .int .i64 1, .int .i64 1] 80))) := fun W k => HAll.out _ (k.alloc _)
  go_region_held3 (fun w' => w'.cell? ⟨b1, 0, none⟩ = some (.int .i64 1) ∧ w'.cell? ⟨b1, 1, none⟩ = some (.int .i64 1) ∧ Kept w L w')
    (first
      | exact T1
      | exact D1
      | (go_split_ands; apply H3.out; assumption; assumption)
      | (go_split_ands; apply H4.out; assumption; assumption)
      | (go_split_ands; apply H5.out; assumption))
    (first
      | (go_at_call 54; (with_reducible refine (HN.out _ _ _).mono ?_); rintro e v1 ⟨rfl, hb⟩)
      | (go_at_call 55; (with_reducible refine (HBk.out _ _ _ _ _).mono ?_); rintro e v1 ⟨rfl, hb⟩)
      | (go_at_call 21; go_split_ands; (have hkk := ‹Kept w L (v1.alloc (.cells #[.int .i64 5, .int .i64 1, .int .i64 1, .int .i64 1] 80))›); (with_reducible refine (HSum.out _ hkk).mono ?_); rintro e v2 ⟨Az, cz, rfl, hiz, hb⟩))
  go_split_ands
  have K : Kept w L v2 := by assumption
  rw [hL.out] at K
  replace K := K.add (cl_isC Az cz [z1, z2]) hiz
  clear hiz HSum hL Hget
  have hN := rate_yes (K.get 6 rfl) (by decide) (by decide) 3 rfl 1 2 rate_c.1 rate_c.2
  go_wp2_with fail
  (with_reducible refine hN.mono ?_); rintro e V1 ⟨rfl, hb⟩
  replace K := ((K.keep hb).alloc (.cells #[.int .i64 1, .int .i64 2] 25)).add (cl_isR V1.heap.size 1 2) (Has.new V1 1 2 25)
  clear hN hb
  go_wp2_with fail
  generalize V1.heap.size = br at *
  generalize V1.alloc (.cells #[.int .i64 1, .int .i64 2] 25) = V2 at *
  obtain ⟨g3, rfl, -, -⟩ := pt_cells (K.get 5 rfl)
  obtain ⟨L, hL, KL⟩ := K.pack
  have HAll : Hid (∀ W : World, Kept w L W → W.cell? ⟨bx, 0, none⟩ = some (.int .i64 20) ∧ W.cell? ⟨bx, 1, none⟩ = some (.int .i64 1) ∧ W.cell? ⟨by', 0, none⟩ = some (.int .i64 40) ∧ W.cell? ⟨by', 1, none⟩ = some (.int .i64 1) ∧ W.cell? ⟨br, 0, none⟩ = some (.int .i64 1) ∧ W.cell? ⟨br, 1, none⟩ = some (.int .i64 2) ∧ W.cell? ⟨g3, 0, none⟩ = some (.int .i64 40) ∧ W.cell? ⟨g3, 1, none⟩ = some (.int .i64 3) ∧ Kept w L W) := fun W k => by
    rw [hL.out] at k
    obtain ⟨g3', e, p0, p1⟩ := pt_cells (k.get 5 rfl)
    cases e
    exact ⟨(k.get 4 rfl).c0, (k.get 4 rfl).c1, (k.get 3 rfl).c0, (k.get 3 rfl).c1, (k.get 0 rfl).c0, (k.get 0 rfl).c1, p0, p1, by rw [hL.out]; exact k⟩
  have HS1 : Hid (∀ W : World, Kept w L W → Calls Tryz.prog 56 #[.slice A2 2 c2, .slice (some ⟨g, 0, none⟩) 2 3] W fun e w' => e = .returned (.bool true) ∧ Below W.heap.size W w') := fun W k => by
    rw [hL.out] at k
    exact same_yes true (k.get 6 rfl) (isC_take (d := [q1, q2]) (k.get 7 rfl) ⟨[q3], rfl⟩) (by decide) (by decide) (decide_eq_true rfl) 2 2 rfl rfl
  have HS2 : Hid (∀ W : World, Kept w L (W.alloc (.cells #[.int .i64 20, .int .i64 1, .int .i64 2, .int .i64 1, .int .i64 65, .int .i64 2, .int .i64 1, .int .i64 2] 80)) → Calls Tryz.prog 56 #[.slice A9 2 c9, .slice (some ⟨W.heap.size, 0, none⟩) 2 2] (W.alloc (.cells #[.int .i64 20, .int .i64 1, .int .i64 2, .int .i64 1, .int .i64 65, .int .i64 2, .int .i64 1, .int .i64 2] 80)) fun e w' => e = .returned (.bool true) ∧ Below (W.alloc (.cells #[.int .i64 20, .int .i64 1, .int .i64 2, .int .i64 1, .int .i64 65, .int .i64 2, .int .i64 1, .int .i64 2] 80)).heap.size (W.alloc (.cells #[.int .i64 20, .int .i64 1, .int .i64 2, .int .i64 1, .int .i64 65, .int .i64 2, .int .i64 1, .int .i64 2] 80)) w') := fun W k => by
    rw [hL.out] at k
    exact same_yes true (k.get 2 rfl) (isC.lit W [s1, s2] 2 _ cells_s.symm) (by decide) (by decide) (decide_eq_true rfl) 2 2 rfl rfl
  have HS3 : Hid (∀ W : World, Kept w L (W.alloc (.cells #[.int .i64 15, .int .i64 1, .int .i64 3, .int .i64 1, .int .i64 35, .int .i64 1, .int .i64 3, .int .i64 2] 80)) → Calls Tryz.prog 56 #[.slice Az 2 cz, .slice (some ⟨W.heap.size, 0, none⟩) 2 2] (W.alloc (.cells #[.int .i64 15, .int .i64 1, .int .i64 3, .int .i64 1, .int .i64 35, .int .i64 1, .int .i64 3, .int .i64 2] 80)) fun e w' => e = .returned (.bool true) ∧ Below (W.alloc (.cells #[.int .i64 15, .int .i64 1, .int .i64 3, .int .i64 1, .int .i64 35, .int .i64 1, .int .i64 3, .int .i64 2] 80)).heap.size (W.alloc (.cells #[.int .i64 15, .int .i64 1, .int .i64 3, .int .i64 1, .int .i64 35, .int .i64 1, .int .i64 3, .int .i64 2] 80)) w') := fun W k => by
    rw [hL.out] at k
    exact same_yes true (k.get 1 rfl) (isC.lit W [z1, z2] 2 _ cells_z.symm) (by decide) (by decide) (decide_eq_true rfl) 2 2 rfl rfl
  clear K hL
  have T2 := HAll.out _ KL
  have D2 := HAll.out _ KL.drew
  have H6 : Hid (∀ W W' : World, Lays W W' → Kept w L W → W'.cell? ⟨bx, 0, none⟩ = some (.int .i64 20) ∧ W'.cell? ⟨bx, 1, none⟩ = some (.int .i64 1) ∧ W'.cell? ⟨by', 0, none⟩ = some (.int .i64 40) ∧ W'.cell? ⟨by', 1, none⟩ = some (.int .i64 1) ∧ W'.cell? ⟨br, 0, none⟩ = some (.int .i64 1) ∧ W'.cell? ⟨br, 1, none⟩ = some (.int .i64 2) ∧ W'.cell? ⟨g3, 0, none⟩ = some (.int .i64 40) ∧ W'.cell? ⟨g3, 1, none⟩ = some (.int .i64 3) ∧ Kept w L W') := fun W W' h k => HAll.out _ (k.keep h.b)
  have H7 : Hid (∀ W W' : World, Below W.heap.size W W' → Kept w L W → W'.cell? ⟨bx, 0, none⟩ = some (.int .i64 20) ∧ W'.cell? ⟨bx, 1, none⟩ = some (.int .i64 1) ∧ W'.cell? ⟨by', 0, none⟩ = some (.int .i64 40) ∧ W'.cell? ⟨by', 1, none⟩ = some (.int .i64 1) ∧ W'.cell? ⟨br, 0, none⟩ = some (.int .i64 1) ∧ W'.cell? ⟨br, 1, none⟩ = some (.int .i64 2) ∧ W'.cell? ⟨g3, 0, none⟩ = some (.int .i64 40) ∧ W'.cell? ⟨g3, 1, none⟩ = some (.int .i64 3) ∧ Kept w L W') := fun W W' h k => HAll.out _ (k.keep h)
  have H8 : Hid (∀ W W' : World, W' = W.alloc (.cells #[.int .i64 20, .int .i64 1, .int .i64 2, .int .i64 1, .int .i64 65, .int .i64 2, .int .i64 1, .int .i64 2] 80) → Kept w L W → W'.cell? ⟨bx, 0, none⟩ = some (.int .i64 20) ∧ W'.cell? ⟨bx, 1, none⟩ = some (.int .i64 1) ∧ W'.cell? ⟨by', 0, none⟩ = some (.int .i64 40) ∧ W'.cell? ⟨by', 1, none⟩ = some (.int .i64 1) ∧ W'.cell? ⟨br, 0, none⟩ = some (.int .i64 1) ∧ W'.cell? ⟨br, 1, none⟩ = some (.int .i64 2) ∧ W'.cell? ⟨g3, 0, none⟩ = some (.int .i64 40) ∧ W'.cell? ⟨g3, 1, none⟩ = some (.int .i64 3) ∧ Kept w L W') := fun W W' h k => HAll.out _ (by rw [h]; exact k.alloc _)
  have H9 : Hid (∀ W W' : World, W' = W.alloc (.cells #[.int .i64 15, .int .i64 1, .int .i64 3, .int .i64 1, .int .i64 35, .int .i64 1, .int .i64 3, .int .i64 2] 80) → Kept w L W → W'.cell? ⟨bx, 0, none⟩ = some (.int .i64 20) ∧ W'.cell? ⟨bx, 1, none⟩ = some (.int .i64 1) ∧ W'.cell? ⟨by', 0, none⟩ = some (.int .i64 40) ∧ W'.cell? ⟨by', 1, none⟩ = some (.int .i64 1) ∧ W'.cell? ⟨br, 0, none⟩ = some (.int .i64 1) ∧ W'.cell? ⟨br, 1, none⟩ = some (.int .i64 2) ∧ W'.cell? ⟨g3, 0, none⟩ = some (.int .i64 40) ∧ W'.cell? ⟨g3, 1, none⟩ = some (.int .i64 3) ∧ Kept w L W') := fun W W' h k => HAll.out _ (by rw [h]; exact k.alloc _)
  simp only [List.append_eq, List.cons_append, List.nil_append]
  go_region_held3 (fun w' => w'.cell? ⟨bx, 0, none⟩ = some (.int .i64 20) ∧ w'.cell? ⟨bx, 1, none⟩ = some (.int .i64 1) ∧ w'.cell? ⟨by', 0, none⟩ = some (.int .i64 40) ∧ w'.cell? ⟨by', 1, none⟩ = some (.int .i64 1) ∧ w'.cell? ⟨br, 0, none⟩ = some (.int .i64 1) ∧ w'.cell? ⟨br, 1, none⟩ = some (.int .i64 2) ∧ w'.cell? ⟨g3, 0, none⟩ = some (.int .i64 40) ∧ w'.cell? ⟨g3, 1, none⟩ = some (.int .i64 3) ∧ Kept w L w')
    (first
      | exact T2
      | exact D2
      | (go_split_ands; apply H6.out; assumption; assumption)
      | (go_split_ands; apply H7.out; assumption; assumption)
      | (go_split_ands; apply H8.out; rfl; assumption)
      | (go_split_ands; apply H9.out; rfl; assumption))
    (first
      | (go_at_call 54; (with_reducible refine (HN.out _ _ _).mono ?_); rintro e v1 ⟨rfl, hb⟩)
      | (go_at_call 55; (with_reducible refine (HBk.out _ _ _ _ _).mono ?_); rintro e v1 ⟨rfl, hb⟩)
      | (go_at_call 56; go_split_ands; (have hkk := ‹Kept w L V2.drew›); (with_reducible refine (HS1.out _ hkk).mono ?_); rintro e v2 ⟨rfl, hb⟩)
      | (go_at_call 56; go_split_ands; (have hkk := ‹Kept w L (v1.alloc (.cells #[.int .i64 20, .int .i64 1, .int .i64 2, .int .i64 1, .int .i64 65, .int .i64 2, .int .i64 1, .int .i64 2] 80))›); (with_reducible refine (HS2.out v1 hkk).mono ?_); rintro e v2 ⟨rfl, hb⟩)
      | (go_at_call 56; go_split_ands; (have hkk := ‹Kept w L (v1.alloc (.cells #[.int .i64 15, .int .i64 1, .int .i64 3, .int .i64 1, .int .i64 35, .int .i64 1, .int .i64 3, .int .i64 2] 80))›); (with_reducible refine (HS3.out v1 hkk).mono ?_); rintro e v2 ⟨rfl, hb⟩))
  go_split_ands
  have KF : Kept w L v1 := by assumption
  have hB := Lib.hid KF.b
  clear KF
  go_wp2
  go_ret
  exact ⟨rfl, hB.out⟩
end Aw
end Go.Proofs.YtaanhddgmiggfaaGreat
