/- MemoryKeeps: a stored byte is loaded until it is overwritten or cleared. -/
import Derived.Test.YtdhofaiogbpjpaaPick
import Derived.Test.YtdhofaiogbpjpaaApart
namespace Go.Proofs.Ytdhofaiogbpjpaa
open Go.RowKit Go.Joins
namespace Me
theorem isB.at {A : Option Addr} {l : List (BitVec 8)} {W : World} (h : isB A l W) {k : Nat} {z : BitVec 8} (hk : l[k]? = some z) : ∃ b off, A = some ⟨b, off, none⟩ ∧ b < W.heap.size ∧ W.cell? ⟨b, off + k, none⟩ = some (U8 z) := by
  obtain ⟨b, off, e, hl, hr⟩ := h (by rintro rfl; simp at hk)
  exact ⟨b, off, e, hl, hr k z hk⟩
theorem isB.mv {b g : Nat} {l : List (BitVec 8)} {W W' : World} (h : isB (some ⟨b, 0, none⟩) l W) (hm : Mv g W W') (hne : b ≠ g) : isB (some ⟨b, 0, none⟩) l W' := fun hz => by
  obtain ⟨b', off, e, hl, hr⟩ := h hz
  cases e
  refine ⟨b, 0, rfl, Nat.lt_of_lt_of_le hl hm.size, fun k z hk => ?_⟩
  rw [World.cell?_of_block (a := ⟨b, 0 + k, none⟩) (hm.far b hne hl)]
  exact hr k z hk
theorem lay_bd {ns : List Nat} {n : Nat} (hn6 : n ≤ 6) (hns : ∀ m ∈ ns, m ≤ 4096) : Bd (layA ns n) := fun x hx => by
  obtain ⟨j, hj⟩ := List.getElem?_of_mem hx
  obtain ⟨hj2, rfl⟩ := layA_inv hj
  have := lay_small hn6 hns hj2
  simp only [regA]
  omega
theorem lay_clear {ns : List Nat} {n p : Nat} (hp : p < n) (f : Nat → BitVec 8) : clE (layA ns n) p = 0 ∧ clR (layA ns n) f p = fun j => if up8 (endA ns p) ≤ j ∧ j < up8 (endA ns p) + ns.getD p 0 then 0#8 else f j := by
  have hf := find_part (ns := ns) (k := n) (i := p) hp
  constructor
  · unfold clE fdB
    rw [hf]; rfl
  · unfold clR
    rw [hf]
    rfl
/-- What layout, validity and sizes say of a module that has a layout. -/
structure ModF (mem : Int) (zs : List Int) (n mn : Nat) (ns : List Nat) : Prop where
  me : mem = (mn : Nat)
  n6 : n ≤ 6
  mn4 : mn ≤ 4096
  lay : layR mem zs = (layA ns n, 0)
  vld : Vld (layA ns n) mn
  ns4 : ∀ m ∈ ns, m ≤ 4096
  fit : endA ns n ≤ mn
  get : ∀ (k : Nat) (z : Int), zs[k]? = some z → ((ns.getD k 0 : Nat) : Int) = z
theorem mod_cases (mem : Int) (zs : List Int) (n : Nat) (hzl : zs.length = n) : (∃ e : Int, layR mem zs = ([], e) ∧ (e != 0) = true) ∨ ∃ mn ns, ModF mem zs n mn ns := by
  rcases layR_cases mem zs with h | ⟨hok, hfit, he⟩
  · exact .inl h
  · rw [hzl] at hfit he
    have hmo := modOk_iff.1 hok
    have hn6 : n ≤ 6 := by have := hmo.2.1; omega
    have hm0 : 0 ≤ mem ∧ mem ≤ 4096 := by have := hmo.1; unfold szOk at this; simpa using this
    obtain ⟨mn, rfl⟩ : ∃ mn : Nat, mem = mn := ⟨mem.toNat, by omega⟩
    exact .inr ⟨mn, zs.map Int.toNat, rfl, hn6, by omega, he, lay_vld hmo.1 hn6 (by omega), toNat_le hmo.2.2, by omega, fun k z h => toNat_get hmo.2.2 h⟩
set_option maxRecDepth 100000 in
set_option maxHeartbeats 16000000 in
theorem keeps_any (s : ByteArray) (mem fr : Int) (A : Option Addr) (n c : Nat) (Ps : List Pt) (part addr : Int) (v : BitVec 8) (other : Int) (w : World) (hn : Ps.length = n) (hA : isP A Ps w) :
    Calls Try.prog 8 #[mdV s mem fr A n c, .int .i64 part, .int .i64 addr, U8 v, .int .i64 other] w fun e w' => e = .returned (.bool true) ∧ Below w.heap.size w w' := by
  have HW : Hid (∀ W : World, _) := fun W => awake_any W
  have hB0 := (Below.refl w.heap.size w).alloc (Nat.le_refl _) (.cells #[.string s, .int .i64 mem, .int .i64 fr, .slice A n c] 24)
  have bM := BoxN.new w 24 #[.string s, .int .i64 mem, .int .i64 fr, .slice A n c]
  have HY : Hid (∀ W, Below w.heap.size w W → _) := fun W h => layout_any s mem fr A c n Ps hn W (hA.keep h)
  have hcase := mod_cases mem (Ps.map Pt.z) n (by rw [List.length_map, hn])
  clear hA hn
  generalize Ps.map Pt.z = zs at *
  simp only [mdV, U8] at *
  go_enter Try.func8, Try.ntmps8
  go_wp2_with fail
  (with_reducible refine (HW.out _).mono ?_); rintro _ w1 ⟨rfl, hb⟩
  have hB1 := hB0.trans (hb.mono hB0.size)
  replace bM := bM.keep hb
  have hl := bM.lt
  have m0 := bM.cell 0
  have m1 := bM.cell 1
  have m2 := bM.cell 2
  have m3 := bM.cell 3
  simp at m0 m1 m2 m3
  have HY1 := Lib.hid (HY.out _ hB1)
  clear hb hB0 HW HY
  rcases hcase with ⟨e, he, hne⟩ | ⟨mn, ns, hF⟩
  · rw [he] at HY1
    clear he
    go_wp2_with fail
    (with_reducible refine (HY1.out).mono ?_); rintro _ w2 ⟨G, cG, rfl, -, hb, -⟩
    have hB2 := hB1.trans (hb.mono hB1.size)
    simp only [List.length_nil]
    go_wp2_with fail
    go_ret
    exact ⟨rfl, hB2⟩
  · rw [hF.lay] at HY1
    obtain rfl := hF.me
    have HF := Lib.hid hF
    have hn6 := hF.n6
    have hmn := hF.mn4
    clear hF
    go_wp2_with fail
    (with_reducible refine (HY1.out).mono ?_); rintro _ w2 ⟨G, cG, rfl, hG, hb, hcap⟩
    have hB2 := hB1.trans (hb.mono hB1.size)
    replace bM := bM.keep hb
    simp only [layA_len] at hG hcap ⊢
    clear HY1 hB1 hb hl m0 m1 m2 m3
    by_cases hn0 : n = 0
    · subst hn0
      go_wp2_with fail
      go_ret
      exact ⟨rfl, hB2⟩
    have hne : ((n : Int) == 0) = false := by simp; omega
    have HP : Hid (∀ W : World, _) := fun W => pick_any part n (by omega) (by omega) W
    obtain ⟨p, hp⟩ : ∃ p, (part % (n : Int)).toNat = p := ⟨_, rfl⟩
    have hpn : p < n := by
      have := Int.emod_nonneg part (show (n : Int) ≠ 0 by omega)
      have := Int.emod_lt_of_pos part (show (0 : Int) < n by omega)
      omega
    rw [hp] at HP
    clear hp
    have hGat := hG.at (layA_get ns n p hpn)
    obtain ⟨gb, go, rfl, hgl, x0, x1, x2⟩ := hGat
    simp only [regA] at x2
    have hsm := lay_small HF.out.n6 HF.out.ns4 hpn
    have hnx := endA_next ns p n hpn
    have hfit := HF.out.fit
    obtain ⟨z, hz⟩ : ∃ z, ns.getD p 0 = z := ⟨_, rfl⟩
    rw [hz] at x2 hsm hnx
    go_wp2_with fail
    (with_reducible refine (HP.out _).mono ?_); rintro _ w3 ⟨rfl, rfl⟩
    clear HP
    by_cases hz0 : z = 0
    · subst hz0
      go_wp2_with fail
      go_ret
      exact ⟨rfl, hB2⟩
    have hzne : ((z : Int) == 0) = false := by simp; omega
    have HPa : Hid (∀ W : World, _) := fun W => pick_any addr z (by omega) (by omega) W
    have HPo : Hid (∀ W : World, _) := fun W => pick_any other z (by omega) (by omega) W
    obtain ⟨a, ha⟩ : ∃ a, (addr % (z : Int)).toNat = a := ⟨_, rfl⟩
    have haz : a < z := by
      have := Int.emod_nonneg addr (show (z : Int) ≠ 0 by omega)
      have := Int.emod_lt_of_pos addr (show (0 : Int) < z by omega)
      omega
    obtain ⟨o, ho⟩ : ∃ o, (other % (z : Int)).toNat = o := ⟨_, rfl⟩
    have hoz : o < z := by
      have := Int.emod_nonneg other (show (z : Int) ≠ 0 by omega)
      have := Int.emod_lt_of_pos other (show (0 : Int) < z by omega)
      omega
    rw [ha] at HPa
    rw [ho] at HPo
    clear ha ho x0 x1
    go_wp2_with fail
    have gx2 := Gr.cell x2 hgl
    haveI : Nonempty (Wd (Gr w3)) := ⟨⟨w3, Below.refl _ _⟩⟩
    have HPa' : Hid (∀ s : Wd (Gr w3), Calls Try.prog 19 #[.int .i64 addr, .int .i64 (z : Nat)] s.val fun e w' => e = .returned (.int .i64 (a : Nat)) ∧ Below s.val.heap.size s.val w') := fun s => (HPa.out s.val).mono fun e w' h => ⟨h.1, by rw [h.2]; exact Below.refl _ _⟩
    have HPo' : Hid (∀ s : Wd (Gr w3), Calls Try.prog 19 #[.int .i64 other, .int .i64 (z : Nat)] s.val fun e w' => e = .returned (.int .i64 (o : Nat)) ∧ Below s.val.heap.size s.val w') := fun s => (HPo.out s.val).mono fun e w' h => ⟨h.1, by rw [h.2]; exact Below.refl _ _⟩
    have hcl : Hid (∀ W W' : World, Gr w3 W → Below W.heap.size W W' → Gr w3 W') := Gr.close
    clear HPa HPo x2
    refine wp_region_cls (Gr w3) (by kernel_rfl) (by kernel_rfl) (Gr.start w3) ?_
    repeat (go_big_quiet_step (first | (go_at_call 19; with_reducible exact Calls.cls hcl.out (HPa'.out _)) | (go_at_call 19; with_reducible exact Calls.cls hcl.out (HPo'.out _))))
    refine wpQuiet_nil ?_
    intro _ hw'
    obtain ⟨s0, rfl⟩ := hw'
    have hB3 := hB2.trans (Below.mono s0.ok hB2.size)
    replace bM := bM.keep s0.ok
    replace hG := hG.keep s0.ok
    clear gx2 HPa' HPo' hcl hB2 hgl
    generalize s0.val = w4 at *
    have hv := HF.out.vld
    have htr := fun (x : Nat) (hx : x < z) => lay_trans HF.out.n6 HF.out.ns4 hpn (a := x) (by rw [hz]; exact hx)
    have hcr := fun f => lay_clear (ns := ns) hpn f
    rw [hz] at hcr
    obtain ⟨u, hu⟩ : ∃ u, up8 (endA ns p) = u := ⟨_, rfl⟩
    rw [hu] at htr hcr
    obtain ⟨f1, hf1⟩ : ∃ f1, stR (layA ns n) (fun _ => 0#8) p o 99#8 = f1 := ⟨_, rfl⟩
    obtain ⟨f2, hf2⟩ : ∃ f2, stR (layA ns n) f1 p a v = f2 := ⟨_, rfl⟩
    obtain ⟨f3, hf3⟩ : ∃ f3, clR (layA ns n) f2 p = f3 := ⟨_, rfl⟩
    have e2 : f2 = fun j => if j = u + a then v else f1 j := by
      rw [← hf2]
      unfold stR
      rw [htr a haz]
      rfl
    have HNw := Lib.hid (new_any (some ⟨gb, go, none⟩) cG n (layA ns n) (layA_len ns n) hcap (lay_bd HF.out.n6 HF.out.ns4) mn hv w4 hG)
    have HS1 : Hid (∀ (lo g : Nat) (W : World), MemS lo g (layA ns n) mn (fun _ => 0#8) W → Calls Try.prog 22 #[.pointer (some ⟨g, 0, none⟩), .int .i64 (p : Nat), .int .i64 (o : Nat), .int .u8 99] W fun e w' => e = .returned (.int .i64 0) ∧ MemS lo g (layA ns n) mn f1 w' ∧ Mv g W w') := fun lo g W h => by
      have := store_any hv p o 99#8 W h
      rw [htr o hoz, hf1] at this
      exact this
    have HS2 : Hid (∀ (lo g : Nat) (W : World), MemS lo g (layA ns n) mn f1 W → Calls Try.prog 22 #[.pointer (some ⟨g, 0, none⟩), .int .i64 (p : Nat), .int .i64 (a : Nat), .int .u8 (v.toNat : Int)] W fun e w' => e = .returned (.int .i64 0) ∧ MemS lo g (layA ns n) mn f2 w' ∧ Mv g W w') := fun lo g W h => by
      have := store_any hv p a v W h
      rw [htr a haz, hf2] at this
      exact this
    have HC1 : Hid (∀ (lo g : Nat) (W : World), MemS lo g (layA ns n) mn f2 W → Calls Try.prog 25 #[.pointer (some ⟨g, 0, none⟩), .int .i64 (p : Nat)] W fun e w' => e = .returned (.int .i64 0) ∧ MemS lo g (layA ns n) mn f3 w' ∧ Mv g W w') := fun lo g W h => by
      have := clear_any hv p W h
      rw [(hcr f2).1, hf3] at this
      exact this
    have HL1 : Hid (∀ (lo g : Nat) (W : World), MemS lo g (layA ns n) mn f2 W → Calls Try.prog 24 #[.pointer (some ⟨g, 0, none⟩), .int .i64 (p : Nat), .int .i64 (a : Nat)] W fun e w' => e = .returned (.tuple #[.int .u8 (v.toNat : Int), .int .i64 0]) ∧ Below W.heap.size W w') := fun lo g W h => by
      have := load_any hv p a W h
      have el : ldR (layA ns n) f2 p a = U8 v := by
        unfold ldR
        rw [htr a haz]
        show (if (0 : Int) = 0 then U8 (f2 ((u + a : Nat) : Int).toNat) else U8 0#8) = U8 v
        rw [if_pos rfl, Int.toNat_natCast, e2]
        simp
      rw [el, htr a haz] at this
      exact this
    have HL2 : Hid (∀ (lo g : Nat) (W : World), MemS lo g (layA ns n) mn f3 W → Calls Try.prog 24 #[.pointer (some ⟨g, 0, none⟩), .int .i64 (p : Nat), .int .i64 (a : Nat)] W fun e w' => e = .returned (.tuple #[.int .u8 0, .int .i64 0]) ∧ Below W.heap.size W w') := fun lo g W h => by
      have := load_any hv p a W h
      have el : ldR (layA ns n) f3 p a = U8 0#8 := by
        unfold ldR
        rw [htr a haz]
        show (if (0 : Int) = 0 then U8 (f3 ((u + a : Nat) : Int).toNat) else U8 0#8) = U8 0#8
        rw [if_pos rfl, Int.toNat_natCast, ← hf3, (hcr f2).2]
        show U8 (if u ≤ u + a ∧ u + a < u + z then 0#8 else f2 (u + a)) = U8 0#8
        rw [if_pos ⟨by omega, by omega⟩]
      rw [el, htr a haz] at this
      exact this
    have HB : Hid (∀ (lo g : Nat) (f : Nat → BitVec 8) (W : World), MemS lo g (layA ns n) mn f W → _) := fun lo g f W h => bytes_any hmn W h
    have H12 : Hid (∀ i, i ≠ u + a → f1 i = f2 i) := fun i hi => by rw [e2]; simp [hi]
    clear hf1 hf2 hf3 e2 htr hcr hu hv hsm hnx hfit hz hG
    generalize u + a = q at *
    have hl := bM.lt
    have m1 := bM.cell 1
    simp at m1
    go_wp2_with fail
    (with_reducible refine (HNw.out).mono ?_); rintro _ w5 ⟨g, rfl, hge, hm, hb⟩
    have hB5 := hB3.trans (hb.mono hB3.size)
    have hgw := hB3.size
    have hg0 : w.heap.size ≤ g := by omega
    have hbg : w.heap.size ≠ g := by omega
    replace bM := bM.keep hb
    clear hb hl m1 HNw hB3
    go_wp2_with fail
    (with_reducible refine (HS1.out _ g _ hm).mono ?_); rintro _ w6 ⟨rfl, hm1, hv1⟩
    have hB6 := hB5.trans (hv1.near _ hg0 hB5.size)
    replace bM := BoxN.mv bM hv1 hbg
    clear hm hv1 hB5 HS1
    go_wp2_with fail
    (with_reducible refine (HB.out _ g _ _ hm1).mono ?_); rintro _ w7 ⟨b1, rfl, hb1g, hI1, hb⟩
    have hB7 := hB6.trans (hb.mono hB6.size)
    have hgl6 := hm1.lt
    replace bM := bM.keep hb
    replace hm1 := hm1.keep hb
    clear hb hB6
    go_wp2_with fail
    (with_reducible refine (HS2.out _ g _ hm1).mono ?_); rintro _ w8 ⟨rfl, hm2, hv2⟩
    have hB8 := hB7.trans (hv2.near _ hg0 hB7.size)
    replace bM := BoxN.mv bM hv2 hbg
    replace hI1 := isB.mv hI1 hv2 (by omega)
    clear hm1 hv2 hB7 HS2
    go_wp2_with fail
    (with_reducible refine (HB.out _ g _ _ hm2).mono ?_); rintro _ w9 ⟨b2, rfl, hb2g, hI2, hb⟩
    have hB9 := hB8.trans (hb.mono hB8.size)
    replace bM := bM.keep hb
    replace hm2 := hm2.keep hb
    replace hI1 := hI1.keep hb
    clear hb hB8 HB
    have HI1 := Lib.hid hI1
    have HI2 := Lib.hid hI2
    have HM2 := Lib.hid hm2
    have HbM := Lib.hid bM
    have HB9 := Lib.hid hB9
    clear hI1 hI2 hm2 bM hB9
    go_wp2_with fail
    go_loopw [17, 18] (fun ch i wr => ∃ (k : Nat) (c' : Nat), k ≤ mn ∧ i = .int .i64 k ∧ ch = .int .i64 c' ∧ c' ≤ (if q < k then 1 else 0) ∧ Below w9.heap.size w9 wr)
      (fun _ i _ => mn - (intOf i).toNat)
    case atStart => exact ⟨0, 0, Nat.zero_le _, rfl, rfl, Nat.zero_le _, Below.refl _ _⟩
    case round =>
      obtain ⟨k, c', hk, rfl, rfl, hc', hB⟩ := hrel
      by_cases hlt : k < mn
      · have hdl : decide ((k : Int) < mn) = true := by simp; omega
        obtain ⟨_, _, e1, hl1, x1⟩ := isB.at (HI1.out.keep hB) (bysR_get mn f1 k hlt)
        obtain ⟨_, _, e2, hl2, x2⟩ := isB.at (HI2.out.keep hB) (bysR_get mn f2 k hlt)
        cases e1
        cases e2
        have hqb := beq_bv (f1 k) (f2 k)
        have h12 := H12.out k
        generalize f1 k = y1 at *
        generalize f2 k = y2 at *
        have hc2 : c' ≤ 1 := by split at hc' <;> omega
        rw [Nat.zero_add] at x1 x2
        simp only [U8] at x1 x2
        by_cases hy : y1 = y2
        · have hqn : ((y1.toNat : Int) != (y2.toNat : Int)) = false := by rw [hy]; simp
          have hrel2 : Hid (c' ≤ if q < k + 1 then 1 else 0) := by
            unfold Hid
            split at hc' <;> split <;> omega
          clear h12 hc' hqb hy
          go_wp2_with fail
          go_quiet (fail)
          rename_i nq
          replace hB := below_drewN hB nq
          clear x1 x2
          generalize wr.drewN nq = wq at hB ⊢
          go_wp2_with fail
          go_roundw
          case rel => exact ⟨k + 1, c', by omega, by go_num, rfl, hrel2.out, hB⟩
          case measure => simp [intOf]; omega
        · have hqn : ((y1.toNat : Int) != (y2.toNat : Int)) = true := by rw [bne, hqb, decide_eq_false hy]; rfl
          have hkq : k = q := by
            by_cases h : k = q
            · exact h
            · exact absurd (h12 h) hy
          have hc0 : c' = 0 := by rw [if_neg (by omega)] at hc'; omega
          have hrel2 : Hid (c' + 1 ≤ if q < k + 1 then 1 else 0) := by
            unfold Hid
            rw [if_pos (by omega)]; omega
          clear h12 hc' hqb hy hkq hc0
          go_wp2_with fail
          go_quiet (fail)
          rename_i nq
          replace hB := below_drewN hB nq
          clear x1 x2
          generalize wr.drewN nq = wq at hB ⊢
          go_wp2_with fail
          go_roundw
          case rel => exact ⟨k + 1, c' + 1, by omega, by go_num, by go_num, hrel2.out, hB⟩
          case measure => simp [intOf]; omega
      · obtain rfl : k = mn := by omega
        have hdl : decide ((k : Int) < k) = false := by simp
        have hc2 : c' ≤ 1 := by split at hc' <;> omega
        have hdc : decide ((c' : Int) ≤ 1) = true := by simp; omega
        have hm := HM2.out.keep hB
        have bM := HbM.out.keep hB
        have hBr := HB9.out.trans (hB.mono HB9.out.size)
        clear hB hc'
        go_wp2_with fail
        (with_reducible refine (HL1.out _ g _ hm).mono ?_); rintro _ w10 ⟨rfl, hb⟩
        replace hm := hm.keep hb
        replace bM := bM.keep hb
        replace hBr := hBr.trans (hb.mono hBr.size)
        clear hb
        go_wp2_with fail
        (with_reducible refine (HC1.out _ g _ hm).mono ?_); rintro _ w11 ⟨rfl, hm3, hv3⟩
        have hBs := hBr.trans (hv3.near _ hg0 hBr.size)
        replace bM := BoxN.mv bM hv3 hbg
        clear hv3 hBr hm
        go_wp2_with fail
        (with_reducible refine (HL2.out _ g _ hm3).mono ?_); rintro _ w12 ⟨rfl, hb⟩
        replace bM := bM.keep hb
        have hBt := hBs.trans (hb.mono hBs.size)
        clear hb hBs hm3
        have hl := bM.lt
        have m1 := bM.cell 1
        simp at m1
        have q1 : ((k : Int) == k) = true := by simp
        have q2 : ((v.toNat : Int) == (v.toNat : Int)) = true := by simp
        go_wp2_with fail
        go_ret
        exact ⟨rfl, hBt⟩
theorem keeps_walk (s : ByteArray) (mem fr : Int) (A : Option Addr) (n c : Nat) (Ps : List Pt) (part addr z other : Int) (w : World) (hn : Ps.length = n) (hA : isP A Ps w) (_ : n ≤ maxLen) (_ : -9223372036854775808 ≤ mem ∧ mem ≤ 9223372036854775807) (_ : ∀ z ∈ Ps.map Pt.z, -9223372036854775808 ≤ z ∧ z ≤ 9223372036854775807) (_ : -9223372036854775808 ≤ part) (_ : part ≤ 9223372036854775807) (_ : -9223372036854775808 ≤ addr) (_ : addr ≤ 9223372036854775807) (hz0 : 0 ≤ z) (hz1 : z ≤ 255) (_ : -9223372036854775808 ≤ other) (_ : other ≤ 9223372036854775807) :
    Calls Try.prog 8 #[mdV s mem fr A n c, .int .i64 part, .int .i64 addr, .int .u8 z, .int .i64 other] w fun e w' => e = .returned (.bool true) ∧ Below w.heap.size w w' := by
  have : z = ((BitVec.ofNat 8 z.toNat).toNat : Int) := by
    rw [BitVec.toNat_ofNat, Nat.mod_eq_of_lt (by omega)]
    omega
  rw [this]
  exact keeps_any s mem fr A n c Ps part addr _ other w hn hA
end Me
end Go.Proofs.Ytdhofaiogbpjpaa
