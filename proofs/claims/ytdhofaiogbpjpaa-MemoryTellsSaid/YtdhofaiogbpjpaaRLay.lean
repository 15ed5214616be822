/- The reference's Layout. -/
import Derived.Test.YtdhofaiogbpjpaaLay
namespace Go.Proofs.Ytdhofaiogbpjpaa
open Go.RowKit Go.Joins
namespace Me
theorem up8_mod {e b : Nat} (h1 : e ≤ b) (h2 : b ≤ up8 e) : (b % 8 = 0 ∧ b = up8 e) ∨ (b % 8 ≠ 0 ∧ b < up8 e) := by
  have := up8_le e
  unfold up8 at *
  omega
theorem modOk_no {mem : Int} {zs : List Int} (h : ¬ (szOk mem = true ∧ zs.length ≤ 6 ∧ ∀ z ∈ zs, 0 ≤ z ∧ z ≤ 4096)) : layR mem zs = ([], 2) := layR_bad (by
  cases hm : modOk mem zs with
  | false => rfl
  | true => exact absurd (modOk_iff.1 hm) h)
set_option maxRecDepth 100000 in
set_option maxHeartbeats 8000000 in
theorem rlayout_any (s : ByteArray) (mem fr : Int) (A : Option Addr) (c n : Nat) (L : List Pt) (hn : L.length = n) (w : World) (hA : isP A L w) :
    Calls Try.prog 29 #[mdV s mem fr A n c] w (LayP w (layR mem (L.map Pt.z))) := by
  obtain ⟨i0, hi, hz0, hz1, hz2⟩ := info_parts infoG
  have hB0 : Below w.heap.size w (w.alloc (.cells #[.string s, .int .i64 mem, .int .i64 fr, .slice A n c] 24)) := (Below.refl _ w).alloc (Nat.le_refl _) _
  have bM := BoxN.new w 24 #[.string s, .int .i64 mem, .int .i64 fr, .slice A n c]
  have HA := Lib.hid hA
  have HL := Lib.hid hn
  obtain ⟨zs, hzs⟩ : ∃ zs, L.map Pt.z = zs := ⟨_, rfl⟩
  have hzl : zs.length = n := by rw [← hzs, List.length_map, hn]
  have HZ : Hid (∀ (k : Nat) (x : Pt), L[k]? = some x → zs[k]? = some x.z) := fun k x hk => by rw [← hzs, List.getElem?_map, hk]; rfl
  rw [hzs]
  have HZL := Lib.hid hzl
  have Hbad : Hid (¬ (szOk mem = true ∧ n ≤ 6 ∧ ∀ z ∈ zs, 0 ≤ z ∧ z ≤ 4096) → layR mem zs = ([], 2)) := fun h => modOk_no (by rw [HZL.out]; exact h)
  clear hA hn hzs hzl
  simp only [mdV]
  by_cases hm0 : mem < 0
  · have hr := Lib.hid (Hbad.out fun h => by have := h.1; unfold szOk at this; simp at this; omega)
    have d : decide (mem < 0) = true := decide_eq_true hm0
    go_enter Try.func29, Try.ntmps29
    go_wp2_with fail
    go_ret2
    exact ⟨none, 0, by rw [hr.out]; rfl, by rw [hr.out]; exact isG.nil _ _, hB0⟩
  by_cases hm1 : 4096 < mem
  · have hr := Lib.hid (Hbad.out fun h => by have := h.1; unfold szOk at this; simp at this; omega)
    have d : decide (mem < 0) = false := decide_eq_false hm0
    have d' : decide (4096 < mem) = true := decide_eq_true hm1
    go_enter Try.func29, Try.ntmps29
    go_wp2_with fail
    go_ret2
    exact ⟨none, 0, by rw [hr.out]; rfl, by rw [hr.out]; exact isG.nil _ _, hB0⟩
  by_cases h6 : 6 < n
  · have hr := Lib.hid (Hbad.out fun h => by have := h.2.1; omega)
    have d : decide (mem < 0) = false := decide_eq_false hm0
    have d' : decide (4096 < mem) = false := decide_eq_false hm1
    have d6 : decide ((6 : Int) < n) = true := by simp; omega
    go_enter Try.func29, Try.ntmps29
    go_wp2_with fail
    go_ret2
    exact ⟨none, 0, by rw [hr.out]; rfl, by rw [hr.out]; exact isG.nil _ _, hB0⟩
  have hsz : Hid (szOk mem = true) := by unfold Hid szOk; simp; omega
  have d : decide (mem < 0) = false := decide_eq_false hm0
  have d' : decide (4096 < mem) = false := decide_eq_false hm1
  have d6 : decide ((6 : Int) < n) = false := by simp; omega
  go_enter Try.func29, Try.ntmps29
  go_wp2_with fail
  clear d d' d6
  obtain ⟨W0, hW0⟩ : ∃ W0, w.alloc (.cells #[.string s, .int .i64 mem, .int .i64 fr, .slice A n c] 24) = W0 := ⟨_, rfl⟩
  rw [hW0] at hB0 bM
  try rw [hW0]
  clear hW0
  go_loopw [4] (fun i wr => ∃ k : Nat, k ≤ n ∧ i = .int .i64 k ∧ Hid (∀ z ∈ zs.take k, 0 ≤ z ∧ z ≤ 4096) ∧ wr = W0)
    (fun i _ => n - (intOf i).toNat)
  case atStart => exact ⟨0, Nat.zero_le _, rfl, fun z hz => by simp at hz, rfl⟩
  case round =>
    obtain ⟨k, hk, rfl, hall, rfl⟩ := hrel
    have hl := bM.lt
    have m1 := bM.cell 1
    have m3 := bM.cell 3
    simp at m1 m3
    by_cases hlt : k < n
    · have hx : L[k]? = some (L[k]'(by rw [HL.out]; exact hlt)) := List.getElem?_eq_getElem _
      obtain ⟨x, hxe⟩ : ∃ x, L[k]'(by rw [HL.out]; exact hlt) = x := ⟨_, rfl⟩
      rw [hxe] at hx
      obtain ⟨ab, ao, rfl, hal, hr, -⟩ := isP.at (HA.out.keep hB0) hx
      obtain ⟨z, hze⟩ : ∃ z, x.z = z := ⟨_, rfl⟩
      have c3 : wr.cell? ⟨ab, ao + k * 10 + 3, none⟩ = some (.int .i64 z) := by rw [← hze]; exact hr 3 _ rfl
      have hzk := HZ.out k x hx
      rw [hze] at hzk
      have hdl : decide ((k : Int) < n) = true := by simp; omega
      have Hno : Hid (¬ (0 ≤ z ∧ z ≤ 4096) → layR mem zs = ([], 2)) := fun h => Hbad.out fun g => h (g.2.2 z (List.mem_of_getElem? hzk))
      have Hgo : Hid (0 ≤ z ∧ z ≤ 4096 → ∀ z ∈ zs.take (k + 1), 0 ≤ z ∧ z ≤ 4096) := fun h z hz => by
        rw [take_snoc' hzk, List.mem_append] at hz
        rcases hz with hz | hz
        · exact hall.out z hz
        · simp only [List.mem_singleton] at hz; rw [hz]; exact h
      clear hr hx hxe hzk hall hze
      by_cases hz0 : z < 0
      · have hr := Lib.hid (Hno.out (by omega))
        have e1 : decide (z < 0) = true := decide_eq_true hz0
        clear Hno Hgo
        go_wp2_with fail
        go_ret2
        exact ⟨none, 0, by rw [hr.out]; rfl, by rw [hr.out]; exact isG.nil _ _, hB0⟩
      · have e1 : decide (z < 0) = false := decide_eq_false hz0
        by_cases hz1 : 4096 < z
        · have hr := Lib.hid (Hno.out (by omega))
          have e2 : decide (4096 < z) = true := decide_eq_true hz1
          clear Hno Hgo
          go_wp2_with fail
          go_ret2
          exact ⟨none, 0, by rw [hr.out]; rfl, by rw [hr.out]; exact isG.nil _ _, hB0⟩
        · have hg := Lib.hid (Hgo.out (by omega))
          have e2 : decide (4096 < z) = false := decide_eq_false hz1
          clear Hno Hgo
          go_wp2_with fail
          go_roundw
          case rel => exact ⟨k + 1, by omega, by go_num, hg.out, by first | rfl | trivial⟩
          case measure => simp [intOf]; omega
    · obtain rfl : k = n := by omega
      have hdl : decide ((k : Int) < k) = false := by simp
      have hall2 : ∀ z ∈ zs, 0 ≤ z ∧ z ≤ 4096 := by
        have := hall.out
        rwa [List.take_of_length_le (by rw [HZL.out]; exact Nat.le_refl _)] at this
      have Hok : Hid (modOk mem zs = true) := modOk_iff.2 ⟨hsz.out, by rw [HZL.out]; omega, hall2⟩
      have hns := toNat_le hall2
      have HG : Hid (∀ (k : Nat) (z : Int), zs[k]? = some z → ((zs.map Int.toNat).getD k 0 : Int) = z) := fun k z h => toNat_get hall2 h
      have HE := Lib.hid (endA_le _ hns)
      obtain ⟨ns, hnse⟩ : ∃ ns, zs.map Int.toNat = ns := ⟨_, rfl⟩
      rw [hnse] at HG HE
      have Hns := Lib.hid hnse
      clear hns hnse hall hall2 Hbad
      have Hbl := Lib.hid (bM.lt)
      have HB0 := Lib.hid hB0
      have hB1 := hB0
      have hn6 : k ≤ 6 := by omega
      go_wp2_with fail
      clear hB0 m1 m3 hl hdl h6 hlt
      go_loopw [5, 6, 7] (fun l e i wx => ∃ (j : Nat) (G : Option Addr) (cc : Nat), j ≤ k ∧ i = .int .i64 j ∧ e = .int .i64 (endA ns j) ∧ l = .slice G j cc ∧ wx.ownsRow (w.heap.size + 1) 45 3 (.slice G j cc) j (cellsG (layA ns j)) ∧ BoxN wx w.heap.size 24 #[.string s, .int .i64 mem, .int .i64 fr, .slice A k c] ∧ Below w.heap.size w wx)
        (fun _ _ i _ => k - (intOf i).toNat)
      case atStart => exact ⟨0, none, 0, Nat.zero_le _, rfl, rfl, rfl, World.ownsRow_nil _ _ _ _, bM, hB1⟩
      case round =>
        clear bM hB1
        obtain ⟨j, G, cc, hj, rfl, rfl, rfl, hown, bM, hB⟩ := hrel
        have hl := bM.lt
        have m1 := bM.cell 1
        have m3 := bM.cell 3
        simp at m1 m3
        by_cases hlt : j < k
        · have hx : L[j]? = some (L[j]'(by rw [HL.out]; exact hlt)) := List.getElem?_eq_getElem _
          obtain ⟨x, hxe⟩ : ∃ x, L[j]'(by rw [HL.out]; exact hlt) = x := ⟨_, rfl⟩
          rw [hxe] at hx
          have hz := HG.out j _ (HZ.out j x hx)
          obtain ⟨ab, ao, rfl, hal, hr, -⟩ := isP.at HA.out hx
          have hzle : x.z ≤ 4096 ∧ 0 ≤ x.z := by
            have := (modOk_iff.1 Hok.out).2.2 x.z (List.mem_of_getElem? (HZ.out j x hx))
            exact ⟨this.2, this.1⟩
          obtain ⟨z, hze⟩ : ∃ z, ns.getD j 0 = z := ⟨_, rfl⟩
          rw [hze] at hz
          rw [← hz] at hzle
          have HC : Hid (∀ W, Below w.heap.size w W → W.cell? ⟨ab, ao + j * 10 + 3, none⟩ = some (.int .i64 (z : Nat))) := fun W hW => by
            rw [hz]
            exact (hW.cell (p := ⟨ab, ao + j * 10 + 3, none⟩) hal).trans (hr 3 _ rfl)
          have hes := Lib.hid (show endA ns (j + 1) = up8 (endA ns j) + ns.getD j 0 from rfl)
          have hls : Hid (cellsG (layA ns (j + 1)) = cellsG (layA ns j) ++ rgL (regA ns j)) := by unfold Hid; rw [layA_succ, cellsG_append]; simp [cellsG]
          have hrg : Hid (rgL (regA ns j) = [.int .i64 j, .int .i64 (up8 (endA ns j)), .int .i64 (ns.getD j 0 : Nat)]) := rfl
          have hel := HE.out j
          have hub := up8_le (endA ns j)
          have Hmod : Hid (∀ b, endA ns j ≤ b → b ≤ up8 (endA ns j) → _) := fun b h1 h2 => up8_mod h1 h2
          rw [hze] at hes hrg
          generalize up8 (endA ns j) = u at *
          generalize endA ns j = e at *
          have hdl : decide ((j : Int) < k) = true := by simp; omega
          have hez : e ≤ 24618 := by omega
          have hu2 : u ≤ e + 7 := hub.2.1
          have hu3 : e ≤ u := hub.1
          clear hx hxe hze hz hr hub hel
          go_wp2_with fail
          go_loopw [8] (fun b wy => ∃ v : Nat, e ≤ v ∧ v ≤ u ∧ b = .int .i64 v ∧ wy = wr)
            (fun b _ => u - (intOf b).toNat)
          case atStart => exact ⟨e, Nat.le_refl _, hu3, rfl, rfl⟩
          case round =>
            obtain ⟨v, hv1, hv2, rfl, rfl⟩ := hrel
            rcases Hmod.out v hv1 hv2 with ⟨h8, rfl⟩ | ⟨h8, hlt8⟩
            · have ht : ((v : Int).tmod 8 != 0) = false := by
                rw [Int.tmod_eq_emod_of_nonneg (by omega)]; simp; omega
              obtain ⟨xs, hxs⟩ : ∃ xs, cellsG (layA ns j) = xs := ⟨_, rfl⟩
              rw [hxs] at hown hls
              clear hxs Hmod
              have hc3 := HC.out wr hB
              have hal2 := Nat.lt_of_lt_of_le hal hB.size
              have own2 := hown.alloc (.cells #[.int .i64 (j : Nat), .int .i64 (v : Nat), .int .i64 (z : Nat)] 45)
              have hbx := BoxN.new wr 45 #[.int .i64 (j : Nat), .int .i64 (v : Nat), .int .i64 (z : Nat)]
              have hNews := World.news_of_block (cs := #[.int .i64 (j : Nat), .int .i64 (v : Nat), .int .i64 (z : Nat)]) (t := 45) (fr := (0, 0)) hbx
              have hBs := hB.size
              have hB2 := hB.alloc hBs (.cells #[.int .i64 (j : Nat), .int .i64 (v : Nat), .int .i64 (z : Nat)] 45)
              have bM2 := bM.alloc (.cells #[.int .i64 (j : Nat), .int .i64 (v : Nat), .int .i64 (z : Nat)] 45)
              have hob := own_block_le own2
              have Hgr : Hid (∀ (row : Option Nat), row = (Value.slice G j cc).ownBlock → some w.heap.size ≠ row ∧ ∀ i, row = some i → w.heap.size ≤ i) := fun row hr => ⟨fun e => by have := hob _ (hr.symm.trans e.symm); omega, fun i e => by have := hob _ (hr.symm.trans e); omega⟩
              clear hown hbx hB bM hob
              go_wp2_with (at_builtin; refine wpList_append_lies _ rfl (.tmp 59) (.tmp 69) 25 rfl (w.heap.size + 1) 45 i0 _ 3 24 Try.underlying25 hi hz0 hz1 hz2 rfl (by decide) (.slice G j cc) j xs rfl own2 ⟨wr.heap.size, 0, none⟩ 1 1 [.int .i64 (j : Nat), .int .i64 (v : Nat), .int .i64 (z : Nat)] rfl rfl hNews (by simp [Value.oneCell']) (by decide) (by unfold maxLen; omega) (by omega) (by simp; omega) _ rfl ?_; intro g5 c5 w5 hn5 hg5 _ _; have bM5 := BoxN.grown' bM2 hg5 (Hgr.out _ rfl).1; have hB5 := hB2.grown hg5 (by simp; omega) (Hgr.out _ rfl).2; have q3 := HC.out w5 hB5; have q4 := bM5.cell 3; simp only [List.getElem?_toArray, List.getElem?_cons_succ, List.getElem?_cons_zero] at q4; have ql := bM5.lt; have qa := Nat.lt_of_lt_of_le hal hB5.size)
              exact ⟨⟨j + 1, some ⟨g5, 0, none⟩, c5, by omega, by go_num, by rw [hes.out]; go_num, rfl, by rw [hls.out, hrg.out]; exact hn5, bM5, hB5⟩, by simp [intOf]; omega⟩
            · have ht : ((v : Int).tmod 8 != 0) = true := by
                rw [Int.tmod_eq_emod_of_nonneg (by omega)]; simp; omega
              go_wp2_with fail
              go_roundw
              case rel => exact ⟨v + 1, by omega, by omega, by go_num, by first | rfl | trivial⟩
              case measure => simp [intOf]; omega
        · obtain rfl : j = k := by omega
          have hdl : decide ((j : Int) < j) = false := by simp
          have hG := isG_of_own hown
          by_cases hfull : mem < (endA ns j : Nat)
          · have hr := Lib.hid (layR_full Hok.out (by rw [HZL.out, Hns.out]; exact hfull))
            have hd : decide (mem < (endA ns j : Nat)) = true := decide_eq_true hfull
            clear hown
            go_wp2_with fail
            go_ret2
            exact ⟨none, 0, by rw [hr.out]; rfl, by rw [hr.out]; exact isG.nil _ _, hB⟩
          · have hr := Lib.hid (layR_ok Hok.out (by rw [HZL.out, Hns.out]; exact hfull))
            rw [HZL.out, Hns.out] at hr
            have hd : decide (mem < (endA ns j : Nat)) = false := decide_eq_false hfull
            clear hown
            go_wp2_with fail
            go_ret2
            exact ⟨G, cc, by rw [hr.out]; simp only [layA_len]; rfl, by rw [hr.out]; exact hG, hB⟩
end Me
end Go.Proofs.Ytdhofaiogbpjpaa
