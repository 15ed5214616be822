/- MemoryTight: the regions of a layout follow each other as closely as multiples of 8 allow. -/
import Derived.Test.YtdhofaiogbpjpaaAwake
import Derived.Test.YtdhofaiogbpjpaaFrame
import Derived.Test.YtdhofaiogbpjpaaCls
namespace Go.Proofs.Ytdhofaiogbpjpaa
open Go.RowKit Go.Joins
namespace Me
theorem up8_add (e : Nat) : e + (8 - e % 8) % 8 = up8 e := by unfold up8; omega
set_option maxRecDepth 100000 in
set_option maxHeartbeats 16000000 in
theorem tight_any (s : ByteArray) (mem fr : Int) (A : Option Addr) (n c : Nat) (Ps : List Pt) (w : World) (hn : Ps.length = n) (hA : isP A Ps w) (hnm : n ≤ maxLen) :
    Calls Try.prog 6 #[mdV s mem fr A n c] w fun e w' => e = .returned (.bool true) ∧ Below w.heap.size w w' := by
  have HW : Hid (∀ W : World, _) := fun W => awake_any W
  have hB0 := (Below.refl w.heap.size w).alloc (Nat.le_refl _) (.cells #[.string s, .int .i64 mem, .int .i64 fr, .slice A n c] 24)
  have bM := BoxN.new w 24 #[.string s, .int .i64 mem, .int .i64 fr, .slice A n c]
  have HA := Lib.hid hA
  have HL := Lib.hid hn
  have HY : Hid (∀ W, Below w.heap.size w W → _) := fun W h => layout_any s mem fr A c n Ps hn W (hA.keep h)
  obtain ⟨zs, hzs⟩ : ∃ zs, Ps.map Pt.z = zs := ⟨_, rfl⟩
  have hzl : zs.length = n := by rw [← hzs, List.length_map, hn]
  have HZ : Hid (∀ (k : Nat) (x : Pt), Ps[k]? = some x → zs[k]? = some x.z) := fun k x hk => by rw [← hzs, List.getElem?_map, hk]; rfl
  rw [hzs] at HY
  have HZL := Lib.hid hzl
  clear hA hn hzs hzl
  unfold maxLen at hnm
  simp only [mdV] at *
  go_enter Try.func6, Try.ntmps6
  go_wp2_with fail
  (with_reducible refine (HW.out _).mono ?_); rintro _ w1 ⟨rfl, hb⟩
  have hB1 := hB0.trans (hb.mono hB0.size)
  replace bM := bM.keep hb
  have hl := bM.lt
  have m1 := bM.cell 1
  have m3 := bM.cell 3
  simp at m1 m3
  clear hb hB0 HW
  by_cases hm0 : mem < 0
  · have d : decide (mem < 0) = true := decide_eq_true hm0
    go_wp2_with fail
    go_ret
    exact ⟨rfl, hB1⟩
  have d0 : decide (mem < 0) = false := decide_eq_false hm0
  by_cases hm1 : 4096 < mem
  · have d : decide (4096 < mem) = true := decide_eq_true hm1
    go_wp2_with fail
    go_ret
    exact ⟨rfl, hB1⟩
  have d1 : decide (4096 < mem) = false := decide_eq_false hm1
  by_cases h6 : 6 < n
  · have d : decide ((6 : Int) < n) = true := by simp; omega
    go_wp2_with fail
    go_ret
    exact ⟨rfl, hB1⟩
  have d6 : decide ((6 : Int) < n) = false := by simp; omega
  have Hsz : Hid (szOk mem = true) := by unfold Hid szOk; simp; omega
  go_wp2_with fail
  clear d0 d1 d6
  obtain ⟨ns, hnse⟩ : ∃ ns, zs.map Int.toNat = ns := ⟨_, rfl⟩
  have Hns := Lib.hid hnse
  clear hnse
  go_loopw [3, 4] (fun e i wr => ∃ k : Nat, k ≤ n ∧ i = .int .i64 k ∧ e = .int .i64 (endA ns k) ∧ Hid (∀ z ∈ zs.take k, 0 ≤ z ∧ z ≤ 4096) ∧ endA ns k ≤ k * 4103 ∧ wr = w1)
    (fun _ i _ => n - (intOf i).toNat)
  case atStart => exact ⟨0, Nat.zero_le _, rfl, rfl, fun z hz => by simp at hz, Nat.le_refl _, rfl⟩
  case round =>
    obtain ⟨k, hk, rfl, rfl, hall, hel, rfl⟩ := hrel
    by_cases hlt : k < n
    · have hx : Ps[k]? = some (Ps[k]'(by rw [HL.out]; exact hlt)) := List.getElem?_eq_getElem _
      obtain ⟨x, hxe⟩ : ∃ x, Ps[k]'(by rw [HL.out]; exact hlt) = x := ⟨_, rfl⟩
      rw [hxe] at hx
      obtain ⟨ab, ao, rfl, hal, hr, -⟩ := isP.at (HA.out.keep hB1) hx
      obtain ⟨z, hze⟩ : ∃ z, x.z = z := ⟨_, rfl⟩
      have c3 : wr.cell? ⟨ab, ao + k * 10 + 3, none⟩ = some (.int .i64 z) := by rw [← hze]; exact hr 3 _ rfl
      have hzk := HZ.out k x hx
      rw [hze] at hzk
      have hdl : decide ((k : Int) < n) = true := by simp; omega
      by_cases hz0 : z < 0
      · have e1 : decide (z < 0) = true := decide_eq_true hz0
        clear hr hx hxe
        go_wp2_with fail
        go_ret
        exact ⟨rfl, hB1⟩
      have e1 : decide (z < 0) = false := decide_eq_false hz0
      by_cases hz1 : 4096 < z
      · have e2 : decide (4096 < z) = true := decide_eq_true hz1
        clear hr hx hxe
        go_wp2_with fail
        go_ret
        exact ⟨rfl, hB1⟩
      have e2 : decide (4096 < z) = false := decide_eq_false hz1
      have Hgo : Hid (∀ z ∈ zs.take (k + 1), 0 ≤ z ∧ z ≤ 4096) := fun y hy => by
        rw [take_snoc' hzk, List.mem_append] at hy
        rcases hy with hy | hy
        · exact hall.out y hy
        · simp only [List.mem_singleton] at hy; rw [hy]; omega
      obtain ⟨zn, rfl⟩ : ∃ zn : Nat, z = zn := ⟨z.toNat, by omega⟩
      have hg : ns.getD k 0 = zn := by
        rw [← Hns.out, List.getD_eq_getElem?_getD, List.getElem?_map, hzk]; simp
      have hes : endA ns (k + 1) = up8 (endA ns k) + zn := by rw [← hg]; rfl
      have hua := up8_add (endA ns k)
      have hul := up8_le (endA ns k)
      have Hes := Lib.hid hes
      have helk : endA ns (k + 1) ≤ (k + 1) * 4103 := by omega
      generalize up8 (endA ns k) = u at *
      generalize endA ns k = e at *
      have ht1 : (e : Int).tmod 8 = (e % 8 : Nat) := by rw [Int.tmod_eq_emod_of_nonneg (by omega)]; omega
      have ht2 : ((8 : Int) - (e % 8 : Nat)).tmod 8 = ((8 - e % 8) % 8 : Nat) := by rw [Int.tmod_eq_emod_of_nonneg (by omega)]; omega
      have hue : (e : Int) + ((8 - e % 8) % 8 : Nat) = (u : Nat) := by omega
      clear hr hx hxe hze hzk hall hg hes hua
      go_wp2_with fail
      exact ⟨⟨k + 1, by omega, by go_num, by rw [Hes.out]; congr 1; omega, Hgo.out, helk, trivial⟩, by simp [intOf]; omega⟩
    · obtain rfl : k = n := by omega
      have hdl : decide ((k : Int) < k) = false := by simp
      have hall2 : ∀ z ∈ zs, 0 ≤ z ∧ z ≤ 4096 := by
        have := hall.out
        rwa [List.take_of_length_le (by rw [HZL.out]; exact Nat.le_refl _)] at this
      have Hok : Hid (modOk mem zs = true) := modOk_iff.2 ⟨Hsz.out, by rw [HZL.out]; omega, hall2⟩
      have HG : Hid (∀ (k : Nat) (z : Int), zs[k]? = some z → (ns.getD k 0 : Int) = z) := fun k z h => by rw [← Hns.out]; exact toNat_get hall2 h
      have HE : Hid (∀ j, endA ns j ≤ j * 4103) := by rw [← Hns.out]; exact endA_le _ (toNat_le hall2)
      have Hfull : Hid (mem < (endA ns k : Nat) → layR mem zs = ([], 4)) := fun h => layR_full Hok.out (by rw [HZL.out, Hns.out]; exact h)
      have Hfit : Hid (¬ mem < (endA ns k : Nat) → layR mem zs = (layA ns k, 0)) := fun h => by
        have := layR_ok Hok.out (by rw [HZL.out, Hns.out]; exact h)
        rwa [HZL.out, Hns.out] at this
      have m0 := bM.cell 0
      have m2 := bM.cell 2
      simp at m0 m2
      have HY1 := Lib.hid (HY.out _ hB1)
      clear hall hall2 HY
      by_cases hfull : mem < (endA ns k : Nat)
      · have hr := Hfull.out hfull
        rw [hr] at HY1
        have hd : decide (mem < (endA ns k : Nat)) = true := decide_eq_true hfull
        have hk6 : k ≤ 6 := by omega
        clear Hfull Hfit hr
        go_wp2_with fail
        (with_reducible refine (HY1.out).mono ?_); rintro _ w2 ⟨G, cG, rfl, -, hb⟩
        have hB2 := hB1.trans (hb.mono hB1.size)
        replace bM := bM.keep hb
        clear m0 m1 m2 m3 hl hb
        have hl := bM.lt
        have m1 := bM.cell 1
        simp at m1
        go_wp2_with fail
        go_ret
        exact ⟨rfl, hB2⟩
      · have hr := Hfit.out hfull
        rw [hr] at HY1
        clear Hfull Hfit hr
        have hk6 : k ≤ 6 := by omega
        go_wp2_with fail
        (with_reducible refine (HY1.out).mono ?_); rintro _ w2 ⟨G, cG, rfl, hG, hb⟩
        have hB2 := hB1.trans (hb.mono hB1.size)
        replace bM := bM.keep hb
        clear m0 m1 m2 m3 hl hb HY1
        simp only [layA_len] at hG ⊢
        have HGr := Lib.hid hG
        have HbM := Lib.hid bM
        have HB2 := Lib.hid hB2
        clear hG bM hB1
        go_wp2_with fail
        go_loopw [7, 8] (fun l i wr => ∃ j : Nat, j ≤ k ∧ i = .int .i64 j ∧ l = .int .i64 (endA ns j) ∧ Below w2.heap.size w2 wr)
          (fun _ i _ => k - (intOf i).toNat)
        case atStart => exact ⟨0, Nat.zero_le _, rfl, rfl, Below.refl _ _⟩
        case round =>
          obtain ⟨j, hj, rfl, rfl, hB⟩ := hrel
          have bM := HbM.out.keep hB
          have hl := bM.lt
          have m1 := bM.cell 1
          have m3 := bM.cell 3
          simp at m1 m3
          by_cases hlt : j < k
          · have hx : Ps[j]? = some (Ps[j]'(by rw [HL.out]; exact hlt)) := List.getElem?_eq_getElem _
            obtain ⟨x, hxe⟩ : ∃ x, Ps[j]'(by rw [HL.out]; exact hlt) = x := ⟨_, rfl⟩
            rw [hxe] at hx
            have hz := HG.out j _ (HZ.out j x hx)
            obtain ⟨ab, ao, rfl, hal, hr, -⟩ := isP.at (HA.out.keep (HB2.out.trans (hB.mono HB2.out.size))) hx
            obtain ⟨gb, go, rfl, hgl, x0, x1, x2⟩ := isG.at (HGr.out.keep hB) (layA_get ns k j hlt)
            obtain ⟨z, hze⟩ : ∃ z, ns.getD j 0 = z := ⟨_, rfl⟩
            have c3 : wr.cell? ⟨ab, ao + j * 10 + 3, none⟩ = some (.int .i64 (z : Nat)) := by rw [← hze, hz]; exact hr 3 _ rfl
            have hel := HE.out j
            have hel2 := HE.out (j + 1)
            have hul := up8_le (endA ns j)
            have hes : endA ns (j + 1) = up8 (endA ns j) + z := by rw [← hze]; rfl
            have Hes := Lib.hid hes
            rw [hes] at hel2
            simp only [regA, hze] at x0 x1 x2
            have Hreg : Hid (regA ns j = ⟨(j : Nat), (up8 (endA ns j) : Nat), (z : Nat)⟩) := by unfold Hid regA; rw [hze]
            have hdl : decide ((j : Int) < k) = true := by simp; omega
            generalize up8 (endA ns j) = u at *
            generalize endA ns j = e at *
            obtain ⟨hu1, hu2, hu8⟩ := hul
            have q0 : ((j : Int) != j) = false := by simp
            have q1 : ((z : Int) != z) = false := by simp
            have q2 : ((u : Int).tmod 8 != 0) = false := by rw [Int.tmod_eq_emod_of_nonneg (by omega)]; simp; omega
            have q2i : ((u : Int) % 8) = 0 := by omega
            have q2t : ((u : Int).tmod 8) = 0 := by rw [Int.tmod_eq_emod_of_nonneg (by omega)]; omega
            have q3 : decide (u < e) = false := by simp; omega
            have q4 : decide ((e : Int) + 7 < u) = false := by simp; omega
            have q5 : IntKind.i64.wrap ((e : Int) + 7) = (e : Int) + 7 := IntWalk.i64_in _ (by omega)
            have q6 : IntKind.i64.wrap ((u : Int) + z) = (u : Int) + z := IntWalk.i64_in _ (by omega)
            clear hx hxe hr hz hze hes
            go_wp2_with fail
            have gm1 := Gr.cell m1 hl
            have gm3 := Gr.cell m3 hl
            have gc3 := Gr.cell c3 hal
            have gx0 := Gr.cell x0 hgl
            have gx1 := Gr.cell x1 hgl
            have gx2 := Gr.cell x2 hgl
            haveI : Nonempty (Wd (Gr wr)) := ⟨⟨wr, Below.refl _ _⟩⟩
            refine wp_region_cls (Gr wr) (by kernel_rfl) (by kernel_rfl) (Gr.start wr) ?_
            repeat (go_big_quiet_step (fail))
            refine wpQuiet_nil ?_
            intro _ hw'
            obtain ⟨s0, rfl⟩ := hw'
            have hR := hB.trans (Below.mono s0.ok hB.size)
            have hR1 := HGr.out.keep hR
            clear gm1 gm3 gc3 gx0 gx1 gx2 hB bM hl m1 m3 c3 x0 x1 x2 q0 q1 q2 q2t q3 q4 q5 hal hgl
            generalize s0.val = v1 at hR hR1 ⊢
            obtain ⟨gb', go', e', hgl, x0, x1, x2⟩ := isG.at hR1 (layA_get ns k j hlt)
            simp only [Option.some.injEq, Addr.mk.injEq, and_true] at e'
            obtain ⟨rfl, rfl⟩ := e'
            rw [Hreg.out] at x0 x1 x2
            simp only at x0 x1 x2
            go_wp2_with fail
            go_quiet (fail)
            rename_i nq
            replace hR := below_drewN hR nq
            clear x0 x1 x2
            generalize v1.drewN nq = v2 at hR ⊢
            go_wp2_with fail
            go_roundw
            case rel => exact ⟨j + 1, by omega, by go_num, by rw [Hes.out]; go_num, hR⟩
            case measure => simp [intOf]; omega
          · obtain rfl : j = k := by omega
            have hdl : decide ((j : Int) < j) = false := by simp
            have hfit : decide ((endA ns j : Nat) ≤ mem) = true := decide_eq_true (by omega)
            have q0 : ((endA ns j : Nat) : Int) == (endA ns j : Nat) := by simp
            go_wp2_with fail
            go_ret
            exact ⟨rfl, HB2.out.trans (hB.mono HB2.out.size)⟩
theorem tight_walk (s : ByteArray) (mem fr : Int) (A : Option Addr) (n c : Nat) (Ps : List Pt) (w : World) (hn : Ps.length = n) (hA : isP A Ps w) (hnm : n ≤ maxLen) (_ : -9223372036854775808 ≤ mem ∧ mem ≤ 9223372036854775807) (_ : ∀ z ∈ Ps.map Pt.z, -9223372036854775808 ≤ z ∧ z ≤ 9223372036854775807) :
    Calls Try.prog 6 #[mdV s mem fr A n c] w fun e w' => e = .returned (.bool true) ∧ Below w.heap.size w w' := tight_any s mem fr A n c Ps w hn hA hnm
end Me
end Go.Proofs.Ytdhofaiogbpjpaa
