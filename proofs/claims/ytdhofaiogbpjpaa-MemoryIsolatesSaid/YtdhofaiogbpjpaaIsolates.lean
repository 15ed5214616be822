/- MemoryIsolates: what a partition loads does not change if the others' operations are left out. -/
import Derived.Test.YtdhofaiogbpjpaaAct
namespace Go.Proofs.Ytdhofaiogbpjpaa
open Go.RowKit Go.Joins
namespace Me
theorem list4' {r : List Int} (h : r.length = 4) : ∃ a b c d, r = [a, b, c, d] := by
  match r, h with
  | [a, b, c, d], _ => exact ⟨a, b, c, d, rfl⟩
theorem cls_pick {W0 : World} {x : Int} {n m : Int} (h : ∀ W : World, Calls Try.prog 19 #[.int .i64 x, .int .i64 n] W fun e w' => e = .returned (.int .i64 m) ∧ w' = W) (s : Wd (Gr W0)) :
    Calls Try.prog 19 #[.int .i64 x, .int .i64 n] s.val fun e w' => e = .returned (.int .i64 m) ∧ Below s.val.heap.size s.val w' := (h s.val).mono fun e w' h => ⟨h.1, by rw [h.2]; exact Below.refl _ _⟩
set_option maxRecDepth 100000 in
set_option maxHeartbeats 16000000 in
theorem isolates_any (s : ByteArray) (mem fr : Int) (A : Option Addr) (n c : Nat) (Ps : List Pt) (B : Option Addr) (cb m : Nat) (R : List (List Int)) (which : Int) (w : World) (hn : Ps.length = n) (hA : isP A Ps w) (hm : R.length = m) (hR : isR2 B R w) :
    Calls Try.prog 7 #[mdV s mem fr A n c, .slice B m cb, .int .i64 which] w fun e w' => e = .returned (.bool true) ∧ Below w.heap.size w w' := by
  have HW : Hid (∀ W : World, _) := fun W => awake_any W
  have hB0 := (Below.refl w.heap.size w).alloc (Nat.le_refl _) (.cells #[.string s, .int .i64 mem, .int .i64 fr, .slice A n c] 24)
  have bM := BoxN.new w 24 #[.string s, .int .i64 mem, .int .i64 fr, .slice A n c]
  have HY : Hid (∀ W, Below w.heap.size w W → _) := fun W h => layout_any s mem fr A c n Ps hn W (hA.keep h)
  have hcase := mod_cases mem (Ps.map Pt.z) n (by rw [List.length_map, hn])
  have HR := Lib.hid hR
  have HLm := Lib.hid hm
  clear hA hn hR hm
  generalize Ps.map Pt.z = zs at *
  simp only [mdV] at *
  go_enter Try.func7, Try.ntmps7
  go_wp2_with fail
  (with_reducible refine (HW.out _).mono ?_); rintro _ w1 ⟨rfl, hb⟩
  have hB1 := hB0.trans (hb.mono hB0.size)
  replace bM := bM.keep hb
  have hl := bM.lt
  have m0 := bM.cell 0
  have m1 := bM.cell 1
  have m2 := bM.cell 2
  have m3 := bM.cell 3
  simp at m0 m1 m2 m3
  have HY1 := Lib.hid (HY.out _ hB1)
  clear hb hB0 HW HY
  rcases hcase with ⟨e, he, hne⟩ | ⟨mn, ns, hF⟩
  · rw [he] at HY1
    clear he
    go_wp2_with fail
    (with_reducible refine (HY1.out).mono ?_); rintro _ w2 ⟨G, cG, rfl, -, hb, -⟩
    have hB2 := hB1.trans (hb.mono hB1.size)
    simp only [List.length_nil]
    go_wp2_with fail
    go_ret
    exact ⟨rfl, hB2⟩
  · rw [hF.lay] at HY1
    obtain rfl := hF.me
    have HF := Lib.hid hF
    have hn6 := hF.n6
    have hmn := hF.mn4
    clear hF
    go_wp2_with fail
    (with_reducible refine (HY1.out).mono ?_); rintro _ w2 ⟨G, cG, rfl, hG, hb, hcap⟩
    have hB2 := hB1.trans (hb.mono hB1.size)
    replace bM := bM.keep hb
    simp only [layA_len] at hG hcap ⊢
    clear HY1 hB1 hb hl m0 m1 m2 m3
    by_cases hn0 : n = 0
    · subst hn0
      go_wp2_with fail
      go_ret
      exact ⟨rfl, hB2⟩
    have hne : ((n : Int) == 0) = false := by simp; omega
    by_cases hm100 : 100 < m
    · have hd : decide ((100 : Int) < m) = true := by simp; omega
      go_wp2_with fail
      go_ret
      exact ⟨rfl, hB2⟩
    have hd : decide ((100 : Int) < m) = false := by simp; omega
    have HP : Hid (∀ W : World, _) := fun W => pick_any which n (by omega) (by omega) W
    obtain ⟨me, hme⟩ : ∃ me, (which % (n : Int)).toNat = me := ⟨_, rfl⟩
    have hmen : me < n := by
      have := Int.emod_nonneg which (show (n : Int) ≠ 0 by omega)
      have := Int.emod_lt_of_pos which (show (0 : Int) < n by omega)
      omega
    rw [hme] at HP
    clear hme
    have hv := HF.out.vld
    have HNw : Hid (∀ W, isG G (layA ns n) W → _) := fun W h => new_any G cG n (layA ns n) (layA_len ns n) hcap (lay_bd HF.out.n6 HF.out.ns4) mn hv W h
    go_wp2_with fail
    (with_reducible refine (HP.out _).mono ?_); rintro _ w3 ⟨rfl, rfl⟩
    have hl := bM.lt
    have m1 := bM.cell 1
    simp at m1
    clear HP
    go_wp2_with fail
    (with_reducible refine (HNw.out _ hG).mono ?_); rintro _ w4 ⟨g1, rfl, hg1, hM1, hb⟩
    have hB4 := hb
    replace bM := bM.keep hb
    have hl := bM.lt
    have m1 := bM.cell 1
    simp at m1
    have hg1l := hM1.lt
    clear hb
    go_wp2_with fail
    (with_reducible refine (HNw.out _ (hG.keep hB4)).mono ?_); rintro _ w5 ⟨g2, rfl, hg2, hM2, hb⟩
    have hB5 := hB4.trans (hb.mono hB4.size)
    replace hM1 := hM1.keep hb
    obtain ⟨lo2, hlo2⟩ : ∃ lo2, w4.heap.size = lo2 := ⟨_, rfl⟩
    rw [hlo2] at hM2 hg2 hg1l
    have Hold : Hid (∀ W, Below w3.heap.size w3 W → isG G (layA ns n) W ∧ Below w.heap.size w W) := fun W h => ⟨hG.keep h, hB2.trans (h.mono hB2.size)⟩
    have HAc : Hid (∀ (lo g k : Nat) (f : Nat → BitVec 8) (p x : Int) (v : BitVec 8) (W : World), k < 3 → MemS lo g (layA ns n) mn f W → _) := fun lo g k f p x v W hk h => act_any hv k hk p x v W h
    clear hb hl m1 bM hB4 HNw hG hB2 hcap hlo2
    obtain ⟨lo1, hlo1⟩ : ∃ lo1, w3.heap.size = lo1 := ⟨_, rfl⟩
    rw [hlo1] at hM1 hg1 hB5 Hold
    have hlow : lo1 ≤ w3.heap.size := by omega
    clear hlo1 hv
    go_wp2_with fail
    go_loopw [14] (fun i wr => ∃ (k : Nat) (F1 F2 : Nat → BitVec 8), k ≤ m ∧ i = .int .i64 k ∧ MemS lo1 g1 (layA ns n) mn F1 wr ∧ MemS lo2 g2 (layA ns n) mn F2 wr ∧ Agr ns me F1 F2 ∧ Below lo1 w3 wr)
      (fun i _ => m - (intOf i).toNat)
    case atStart => exact ⟨0, _, _, Nat.zero_le _, rfl, hM1, hM2, fun a _ => rfl, hB5⟩
    case round =>
      clear hM1 hM2 hB5
      obtain ⟨k, F1, F2, hk, rfl, hM1, hM2, hag, hB⟩ := hrel
      by_cases hlt : k < m
      · have hdl : decide ((k : Int) < m) = true := by simp; omega
        have hx : R[k]? = some (R[k]'(by rw [HLm.out]; exact hlt)) := List.getElem?_eq_getElem _
        obtain ⟨r, hxe⟩ : ∃ r, R[k]'(by rw [HLm.out]; exact hlt) = r := ⟨_, rfl⟩
        rw [hxe] at hx
        obtain ⟨hG, hBw⟩ := Hold.out wr hB
        obtain ⟨br, or', Bz, cz, rfl, hbr0, r00, hZ⟩ := isR2.at HR.out hx
        have hbr := Nat.lt_of_lt_of_le hbr0 hBw.size
        have r0 := (hBw.cell (p := ⟨br, or' + k, none⟩) hbr0).trans r00
        by_cases hr4 : r.length = 4
        · have hq4 : ((4 : Int) != 4) = false := by decide
          obtain ⟨y0, y1, y2, y3, rfl⟩ := list4' hr4
          obtain ⟨bz, oz, rfl, hbz0, hzc⟩ := hZ (by simp)
          have HX : Hid (∀ W, Below w.heap.size w W → br < W.heap.size ∧ bz < W.heap.size ∧ W.cell? ⟨br, or' + k, none⟩ = some (.slice (some ⟨bz, oz, none⟩) 4 cz) ∧ W.cell? ⟨bz, oz, none⟩ = some (.int .i64 y0) ∧ W.cell? ⟨bz, oz + 1, none⟩ = some (.int .i64 y1) ∧ W.cell? ⟨bz, oz + 2, none⟩ = some (.int .i64 y2) ∧ W.cell? ⟨bz, oz + 3, none⟩ = some (.int .i64 y3)) := fun W h =>
            ⟨Nat.lt_of_lt_of_le hbr0 h.size, Nat.lt_of_lt_of_le hbz0 h.size, (h.cell (p := ⟨br, or' + k, none⟩) hbr0).trans r00, (h.cell (p := ⟨bz, oz, none⟩) hbz0).trans (hzc 0 y0 rfl), (h.cell (p := ⟨bz, oz + 1, none⟩) hbz0).trans (hzc 1 y1 rfl), (h.cell (p := ⟨bz, oz + 2, none⟩) hbz0).trans (hzc 2 y2 rfl), (h.cell (p := ⟨bz, oz + 3, none⟩) hbz0).trans (hzc 3 y3 rfl)⟩
          clear hbr0 r00 hZ hzc hbz0 hbr r0
          obtain ⟨hbr, hbz, r0, z0, z1, -, -⟩ := HX.out wr hBw
          have HP0 : Hid (∀ W : World, Calls Try.prog 19 #[.int .i64 y0, .int .i64 3] W fun e w' => e = .returned (.int .i64 ((y0 % 3).toNat : Nat)) ∧ w' = W) := fun W => pick_any y0 3 (by decide) (by decide) W
          have HP1 : Hid (∀ W : World, _) := fun W => pick_any y1 n (by omega) (by omega) W
          obtain ⟨kd, hkd⟩ : ∃ kd, (y0 % 3).toNat = kd := ⟨_, rfl⟩
          have hkd3 : kd < 3 := by omega
          obtain ⟨p, hp⟩ : ∃ p, (y1 % (n : Int)).toNat = p := ⟨_, rfl⟩
          have hpn : p < n := by
            have := Int.emod_nonneg y1 (show (n : Int) ≠ 0 by omega)
            have := Int.emod_lt_of_pos y1 (show (0 : Int) < n by omega)
            omega
          rw [hkd] at HP0
          rw [hp] at HP1
          have HP0' : Hid (∀ s : Wd (Gr wr), _) := fun s => cls_pick HP0.out s
          have HP1' : Hid (∀ s : Wd (Gr wr), _) := fun s => cls_pick HP1.out s
          have hcl : Hid (∀ W W' : World, Gr wr W → Below W.heap.size W W' → Gr wr W') := Gr.close
          have l01 : (0 : Nat) < 4 := by decide
          have l11 : (1 : Nat) < 4 := by decide
          clear hx hxe HP0 HP1 hkd hp
          go_wp2_with fail
          have gr0 := Gr.cell r0 hbr
          have gz0 := Gr.cell z0 hbz
          have gz1 := Gr.cell z1 hbz
          haveI : Nonempty (Wd (Gr wr)) := ⟨⟨wr, Below.refl _ _⟩⟩
          refine wp_region_cls (Gr wr) (by kernel_rfl) (by kernel_rfl) (Gr.start wr) ?_
          repeat (go_big_quiet_step (first | (go_at_call 19; with_reducible exact Calls.cls hcl.out (HP0'.out _)) | (go_at_call 19; with_reducible exact Calls.cls hcl.out (HP1'.out _))))
          refine wpQuiet_nil ?_
          intro _ hw'
          obtain ⟨s0, rfl⟩ := hw'
          have hlw : lo1 ≤ wr.heap.size := Nat.le_trans hlow hB.size
          replace hB := hB.trans (Below.mono s0.ok hlw)
          replace hM1 := hM1.keep s0.ok
          replace hM2 := hM2.keep s0.ok
          clear gr0 gz0 gz1 HP0' HP1' hcl hG hBw hbr hbz r0 z0 z1 hlw
          generalize s0.val = w6 at *
          obtain ⟨hG, hBw⟩ := Hold.out w6 hB
          obtain ⟨hbr, hbz, r0, -, -, z2, -⟩ := HX.out w6 hBw
          obtain ⟨gb, go, rfl, hgl, -, -, x2⟩ := isG.at hG (layA_get ns n p hpn)
          have hsm := lay_small HF.out.n6 HF.out.ns4 hpn
          obtain ⟨z, hz⟩ : ∃ z, ns.getD p 0 = z := ⟨_, rfl⟩
          simp only [regA, hz] at x2
          rw [hz] at hsm
          have HP2 : Hid (∀ W : World, Calls Try.prog 19 #[.int .i64 y2, .int .i64 ((z : Int) + 2)] W fun e w' => e = .returned (.int .i64 ((y2 % ((z + 2 : Nat) : Int)).toNat : Nat)) ∧ w' = W) := fun W => pick_any y2 (z + 2) (by omega) (by omega) W
          obtain ⟨q, hq⟩ : ∃ q, (y2 % ((z + 2 : Nat) : Int)).toNat = q := ⟨_, rfl⟩
          have hqz : q < z + 2 := by
            have := Int.emod_nonneg y2 (show ((z + 2 : Nat) : Int) ≠ 0 by omega)
            have := Int.emod_lt_of_pos y2 (show (0 : Int) < ((z + 2 : Nat) : Int) by omega)
            omega
          rw [hq] at HP2
          have HP2' : Hid (∀ s : Wd (Gr w6), _) := fun s => cls_pick HP2.out s
          have hcl : Hid (∀ W W' : World, Gr w6 W → Below W.heap.size W W' → Gr w6 W') := Gr.close
          have l21 : (2 : Nat) < 4 := by decide
          have l31 : (3 : Nat) < 4 := by decide
          have hw2 : IntKind.i64.wrap ((z : Int) + 2) = (z : Int) + 2 := IntWalk.i64_in _ (by omega)
          have hwq : IntKind.i64.wrap ((q : Int) - 1) = (q : Int) - 1 := IntWalk.i64_in _ (by omega)
          clear HP2 hq
          go_wp2_with fail
          have gr0 := Gr.cell r0 hbr
          have gz2 := Gr.cell z2 hbz
          have gx2 := Gr.cell x2 hgl
          haveI : Nonempty (Wd (Gr w6)) := ⟨⟨w6, Below.refl _ _⟩⟩
          refine wp_region_cls (Gr w6) (by kernel_rfl) (by kernel_rfl) (Gr.start w6) ?_
          repeat (go_big_quiet_step (first | (go_at_call 19; with_reducible exact Calls.cls hcl.out (HP2'.out _))))
          refine wpQuiet_nil ?_
          intro _ hw'
          obtain ⟨s0, rfl⟩ := hw'
          have hlw : lo1 ≤ w6.heap.size := Nat.le_trans hlow hB.size
          replace hB := hB.trans (Below.mono s0.ok hlw)
          replace hM1 := hM1.keep s0.ok
          replace hM2 := hM2.keep s0.ok
          clear gr0 gz2 gx2 HP2' hcl hG hBw hbr hbz r0 z2 hlw x2 hgl
          generalize s0.val = w7 at *
          obtain ⟨hG, hBw⟩ := Hold.out w7 hB
          obtain ⟨hbr, hbz, r0, -, -, -, z3⟩ := HX.out w7 hBw
          obtain ⟨vb, hvb⟩ : ∃ vb : BitVec 8, (vb.toNat : Int) = y3 % 256 := ⟨BitVec.ofNat 8 (y3 % 256).toNat, by
            rw [BitVec.toNat_ofNat, Nat.mod_eq_of_lt (by omega)]
            omega⟩
          have HA1 := Lib.hid (HAc.out lo1 g1 kd F1 p ((q : Int) - 1) vb w7 hkd3 hM1)
          have Hiso := Lib.hid fun (h : p ≠ me) => act_other HF.out.n6 HF.out.ns4 hpn h F1 F2 kd ((q : Int) - 1) vb hag
          have Hsam := Lib.hid fun (h : p = me) => act_same HF.out.n6 HF.out.ns4 hmen F1 F2 kd ((q : Int) - 1) vb hag
          simp only [U8, hvb] at HA1
          go_wp2_with fail
          (with_reducible refine (HA1.out).mono ?_); rintro _ w8 ⟨rfl, hM1', hmv⟩
          have hlw : lo1 ≤ w7.heap.size := Nat.le_trans hlow hB.size
          have hB8 := hB.trans (hmv.near lo1 hg1 hlw)
          have hM2' := hM2.far hmv (by omega) (.inl hg1l)
          have hlw8 : lo1 ≤ w8.heap.size := Nat.le_trans hlow hB8.size
          clear hM1 hM2 hmv HA1 hG hbr hbz r0 z3 hB hBw hlw
          by_cases hpm : p = me
          · have hqm : ((p : Int) != me) = false := by rw [hpm]; simp
            obtain ⟨hb1, hag'⟩ := Hsam.out hpm
            rw [← hpm] at hb1 hag'
            have Hag := Lib.hid hag'
            have Hpm := Lib.hid hpm
            clear hag' Hiso Hsam
            obtain ⟨hG, hBw⟩ := Hold.out w8 hB8
            obtain ⟨hbr, hbz, r0, -, -, -, z3⟩ := HX.out w8 hBw
            have HA2 := Lib.hid (HAc.out lo2 g2 kd F2 p ((q : Int) - 1) vb w8 hkd3 hM2')
            rw [← hb1] at HA2
            simp only [U8, hvb] at HA2
            clear hb1 hpm
            generalize actB (layA ns n) F1 kd p ((q : Int) - 1) = ba at *
            generalize actE (layA ns n) kd p ((q : Int) - 1) = ea at *
            have qa : ((ba.toNat : Int) != (ba.toNat : Int)) = false := by simp
            have qe : (ea != ea) = false := by simp
            go_wp2_with fail
            (with_reducible refine (HA2.out).mono ?_); rintro _ w9 ⟨rfl, hM2'', hmv⟩
            have hB9 := hB8.trans (hmv.near lo1 (by omega) hlw8)
            have hM1'' := hM1'.far hmv (by omega) (.inr (by omega))
            clear hM1' hM2' hmv HA2 hG hbr hbz r0 z3 hB8 hBw
            go_wp2_with fail
            go_roundw
            case rel => exact ⟨k + 1, _, _, by omega, by go_num, hM1'', hM2'', by rw [← Hpm.out]; exact Hag.out, hB9⟩
            case measure => simp [intOf]; omega
          · have hqm : ((p : Int) != me) = true := by simp; omega
            have Hag := Lib.hid (Hiso.out hpm)
            clear Hiso Hsam
            generalize actB (layA ns n) F1 kd p ((q : Int) - 1) = ba at *
            generalize actE (layA ns n) kd p ((q : Int) - 1) = ea at *
            go_wp2_with fail
            go_roundw
            case rel => exact ⟨k + 1, _, F2, by omega, by go_num, hM1', hM2', Hag.out, hB8⟩
            case measure => simp [intOf]; omega
        · have hq4 : ((r.length : Int) != 4) = true := by simp; omega
          generalize r.length = rl at *
          clear hx hxe hZ r00 hbr0
          go_wp2_with fail
          go_roundw
          case rel => exact ⟨k + 1, F1, F2, by omega, by go_num, hM1, hM2, hag, hB⟩
          case measure => simp [intOf]; omega
      · obtain rfl : k = m := by omega
        have hdl : decide ((k : Int) < k) = false := by simp
        have hBw := (Hold.out wr hB).2
        go_wp2_with fail
        go_ret
        exact ⟨rfl, hBw⟩
theorem isolates_walk (s : ByteArray) (mem fr : Int) (A : Option Addr) (n c : Nat) (Ps : List Pt) (B : Option Addr) (cb : Nat) (R : List (List Int)) (which : Int) (w : World) (hn : Ps.length = n) (hA : isP A Ps w) (_ : n ≤ maxLen) (_ : -9223372036854775808 ≤ mem ∧ mem ≤ 9223372036854775807) (_ : ∀ z ∈ Ps.map Pt.z, -9223372036854775808 ≤ z ∧ z ≤ 9223372036854775807) (hR : isR2 B R w) (_ : R.length ≤ maxLen) (_ : -9223372036854775808 ≤ which) (_ : which ≤ 9223372036854775807) :
    Calls Try.prog 7 #[mdV s mem fr A n c, .slice B R.length cb, .int .i64 which] w fun e w' => e = .returned (.bool true) ∧ Below w.heap.size w w' := isolates_any s mem fr A n c Ps B cb _ R which w hn hA rfl hR
end Me
end Go.Proofs.Ytdhofaiogbpjpaa
