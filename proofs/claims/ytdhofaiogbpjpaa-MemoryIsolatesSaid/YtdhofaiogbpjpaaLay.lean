/- Layout. -/
import Derived.Test.YtdhofaiogbpjpaaSzv
import Derived.Test.YtdhofaiogbpjpaaRow
namespace Go.Proofs.Ytdhofaiogbpjpaa
open Go.RowKit Go.Joins
namespace Me
theorem layR_bad {mem : Int} {zs : List Int} (h : modOk mem zs = false) : layR mem zs = ([], 2) := by unfold layR; rw [h]; rfl
theorem layR_full {mem : Int} {zs : List Int} (h : modOk mem zs = true) (h2 : mem < endA (zs.map Int.toNat) zs.length) : layR mem zs = ([], 4) := by unfold layR; rw [if_pos h, if_pos h2]
theorem layR_ok {mem : Int} {zs : List Int} (h : modOk mem zs = true) (h2 : ¬ mem < endA (zs.map Int.toNat) zs.length) : layR mem zs = (layA (zs.map Int.toNat) zs.length, 0) := by unfold layR; rw [if_pos h, if_neg h2]
theorem layR_len (mem : Int) (zs : List Int) : (layR mem zs).1.length ≤ 6 := by
  cases h : modOk mem zs with
  | false => rw [layR_bad h]; decide
  | true =>
    by_cases h2 : mem < endA (zs.map Int.toNat) zs.length
    · rw [layR_full h h2]; decide
    · rw [layR_ok h h2]; simp only [layA_len]; exact (modOk_iff.1 h).2.1
/-- The contract's end of Layout. -/
def LayP (w : World) (r : List Rg × Int) (e : Ending) (w' : World) : Prop := ∃ G c, e = .returned (.tuple #[.slice G r.1.length c, .int .i64 r.2]) ∧ isG G r.1 w' ∧ Below w.heap.size w w' ∧ r.1.length ≤ c
set_option maxRecDepth 100000 in
set_option maxHeartbeats 4000000 in
theorem layout_any (s : ByteArray) (mem fr : Int) (A : Option Addr) (c n : Nat) (L : List Pt) (hn : L.length = n) (w : World) (hA : isP A L w) :
    Calls Try.prog 17 #[mdV s mem fr A n c] w (LayP w (layR mem (L.map Pt.z))) := by
  obtain ⟨i0, hi, hz0, hz1, hz2⟩ := info_parts infoG
  have HS : Hid (∀ W : World, Below w.heap.size w W → _) := fun W hW => sizes_any s mem fr A c n L hn W (hA.keep hW)
  have hB0 : Below w.heap.size w (w.alloc (.cells #[.string s, .int .i64 mem, .int .i64 fr, .slice A n c] 24)) := (Below.refl _ w).alloc (Nat.le_refl _) _
  have HB0 := Lib.hid hB0
  have bM := BoxN.new w 24 #[.string s, .int .i64 mem, .int .i64 fr, .slice A n c]
  have HA := Lib.hid hA
  have HL := Lib.hid hn
  obtain ⟨zs, hzs⟩ : ∃ zs, L.map Pt.z = zs := ⟨_, rfl⟩
  have hzl : zs.length = n := by rw [← hzs, List.length_map, hn]
  have HZ : Hid (∀ (k : Nat) (x : Pt), L[k]? = some x → zs[k]? = some x.z) := fun k x hk => by rw [← hzs, List.getElem?_map, hk]; rfl
  rw [hzs] at HS ⊢
  have HZL := Lib.hid hzl
  clear hB0 hA hn hzs hzl
  simp only [mdV]
  go_enter Try.func17, Try.ntmps17
  go_wp2_with fail
  (with_reducible refine (HS.out _ HB0.out).mono ?_); rintro e w1 ⟨rfl, hb⟩
  have hB1 := HB0.out.trans (hb.mono HB0.out.size)
  replace bM := bM.keep hb
  clear hb HB0 HS
  cases hok : modOk mem zs with
  | false =>
    have hr := Lib.hid (layR_bad hok)
    clear hok bM
    go_wp2_with fail
    go_ret2
    exact ⟨none, 0, by rw [hr.out]; rfl, by rw [hr.out]; exact isG.nil _ _, hB1, by rw [hr.out]; exact Nat.le_refl _⟩
  | true =>
    have hmo := modOk_iff.1 hok
    have Hok := Lib.hid hok
    have hn6 : n ≤ 6 := by have := hmo.2.1; rw [HZL.out] at this; exact this
    have hns := toNat_le hmo.2.2
    have HG : Hid (∀ (k : Nat) (z : Int), zs[k]? = some z → ((zs.map Int.toNat).getD k 0 : Int) = z) := fun k z h => toNat_get hmo.2.2 h
    have HE := Lib.hid (endA_le _ hns)
    have hl := bM.lt
    have m1 := bM.cell 1
    have m3 := bM.cell 3
    simp at m1 m3
    obtain ⟨ns, hnse⟩ : ∃ ns, zs.map Int.toNat = ns := ⟨_, rfl⟩
    rw [hnse] at HG HE
    have Hns := Lib.hid hnse
    clear hok hmo hns hnse
    go_wp2_with fail
    clear m1 m3
    go_loopw [4, 5, 15] (fun l e i wr => ∃ (k : Nat) (G : Option Addr) (cc : Nat), k ≤ n ∧ i = .int .i64 k ∧ e = .int .i64 (endA ns k) ∧ l = .slice G k cc ∧ wr.ownsRow (w.heap.size + 1) 45 3 (.slice G k cc) k (cellsG (layA ns k)) ∧ BoxN wr w.heap.size 24 #[.string s, .int .i64 mem, .int .i64 fr, .slice A n c] ∧ Below w.heap.size w wr)
      (fun _ _ i _ => n - (intOf i).toNat)
    case atStart => exact ⟨0, none, 0, Nat.zero_le _, rfl, rfl, rfl, World.ownsRow_nil _ _ _ _, bM, hB1⟩
    case round =>
      clear bM hB1
      obtain ⟨k, G, cc, hk, rfl, rfl, rfl, hown, bM, hB⟩ := hrel
      by_cases hlt : k < n
      · have hx : L[k]? = some (L[k]'(by rw [HL.out]; exact hlt)) := List.getElem?_eq_getElem _
        obtain ⟨x, hxe⟩ : ∃ x, L[k]'(by rw [HL.out]; exact hlt) = x := ⟨_, rfl⟩
        rw [hxe] at hx
        obtain ⟨ab, ao, rfl, hal, hr, hld⟩ := isP.at (HA.out.keep hB) hx
        have hz := HG.out k _ (HZ.out k x hx)
        have hzle : x.z ≤ 4096 ∧ 0 ≤ x.z := by
          have := (modOk_iff.1 Hok.out).2.2 x.z (List.mem_of_getElem? (HZ.out k x hx))
          exact ⟨this.2, this.1⟩
        have c0 := hr 0 _ rfl
        have c1 := hr 1 _ rfl
        have c2 := hr 2 _ rfl
        have c3 := hr 3 _ rfl
        have c4 := hr 4 _ rfl
        have c5 := hr 5 _ rfl
        have c6 := hr 6 _ rfl
        have c7 := hr 7 _ rfl
        have c8 := hr 8 _ rfl
        have c9 := hr 9 _ rfl
        rw [Nat.add_zero] at c0
        have hes := Lib.hid (show endA ns (k + 1) = up8 (endA ns k) + ns.getD k 0 from rfl)
        have hls : Hid (cellsG (layA ns (k + 1)) = cellsG (layA ns k) ++ rgL (regA ns k)) := by unfold Hid; rw [layA_succ, cellsG_append]; simp [cellsG]
        have hrg : Hid (rgL (regA ns k) = [.int .i64 k, .int .i64 (up8 (endA ns k)), .int .i64 (ns.getD k 0 : Nat)]) := rfl
        have hel := HE.out k
        have hu : ((endA ns k : Nat) + 8 - 1 : Int) / 8 * 8 = (up8 (endA ns k) : Nat) := by unfold up8; omega
        have hub := up8_le (endA ns k)
        obtain ⟨z, hze⟩ : ∃ z, ns.getD k 0 = z := ⟨_, rfl⟩
        rw [hze] at hz hes hrg
        obtain ⟨s', a', b', z', A4, n4, c4', e', f', A7, n7, c7', A8, n8, c8', A9, n9, c9'⟩ := x
        simp only [ptV, ptC] at *
        subst hz
        generalize up8 (endA ns k) = u at *
        generalize endA ns k = e at *
        clear hze hx hxe hr
        have hu8 : u % 8 = 0 := hub.2.2
        have hu2 : u ≤ e + 7 := hub.2.1
        obtain ⟨xs, hxs⟩ : ∃ xs, cellsG (layA ns k) = xs := ⟨_, rfl⟩
        rw [hxs] at hown hls
        clear hub hxs
        have own2 := (hown.alloc (.cells #[.string s', .int .i64 a', .int .i64 b', .int .i64 (z : Nat), .slice A4 n4 c4', .int .i64 e', .int .i64 f', .slice A7 n7 c7', .slice A8 n8 c8', .slice A9 n9 c9'] 42)).alloc (.cells #[.int .i64 (k : Nat), .int .i64 (u : Nat), .int .i64 (z : Nat)] 45)
        have hbx := BoxN.new (wr.alloc (.cells #[.string s', .int .i64 a', .int .i64 b', .int .i64 (z : Nat), .slice A4 n4 c4', .int .i64 e', .int .i64 f', .slice A7 n7 c7', .slice A8 n8 c8', .slice A9 n9 c9'] 42)) 45 #[.int .i64 (k : Nat), .int .i64 (u : Nat), .int .i64 (z : Nat)]
        rw [World.size_alloc] at hbx
        have hNews := World.news_of_block (cs := #[.int .i64 (k : Nat), .int .i64 (u : Nat), .int .i64 (z : Nat)]) (t := 45) (fr := (0, 0)) hbx
        have hBs := hB.size
        have hB2 := (hB.alloc hBs (.cells #[.string s', .int .i64 a', .int .i64 b', .int .i64 (z : Nat), .slice A4 n4 c4', .int .i64 e', .int .i64 f', .slice A7 n7 c7', .slice A8 n8 c8', .slice A9 n9 c9'] 42)).alloc (by simp; omega) (.cells #[.int .i64 (k : Nat), .int .i64 (u : Nat), .int .i64 (z : Nat)] 45)
        have bM2 := (bM.alloc (.cells #[.string s', .int .i64 a', .int .i64 b', .int .i64 (z : Nat), .slice A4 n4 c4', .int .i64 e', .int .i64 f', .slice A7 n7 c7', .slice A8 n8 c8', .slice A9 n9 c9'] 42)).alloc (.cells #[.int .i64 (k : Nat), .int .i64 (u : Nat), .int .i64 (z : Nat)] 45)
        have bP2 := (BoxN.new wr 42 #[.string s', .int .i64 a', .int .i64 b', .int .i64 (z : Nat), .slice A4 n4 c4', .int .i64 e', .int .i64 f', .slice A7 n7 c7', .slice A8 n8 c8', .slice A9 n9 c9']).alloc (.cells #[.int .i64 (k : Nat), .int .i64 (u : Nat), .int .i64 (z : Nat)] 45)
        have hob := own_block_le own2
        have hol := own_lt hown
        have Hgr : Hid (∀ (row : Option Nat), row = (Value.slice G k cc).ownBlock → some wr.heap.size ≠ row ∧ some w.heap.size ≠ row ∧ ∀ j, row = some j → w.heap.size ≤ j) := fun row hr => ⟨fun e => by have := hol _ (hr.symm.trans e.symm); omega, fun e => by have := hob _ (hr.symm.trans e.symm); omega, fun j e => by have := hob _ (hr.symm.trans e); omega⟩
        have hl := bM.lt
        have m1 := bM.cell 1
        have m3 := bM.cell 3
        simp at m1 m3
        have hez : e ≤ 24618 := by omega
        clear hown hbx hB bM hob hol
        go_wp2_with (at_builtin; refine wpList_append_lies _ rfl (.tmp 25) (.tmp 31) 25 rfl (w.heap.size + 1) 45 i0 _ 3 24 Try.underlying25 hi hz0 hz1 hz2 rfl (by decide) (.slice G k cc) k xs rfl own2 ⟨wr.heap.size + 1, 0, none⟩ 1 1 [.int .i64 (k : Nat), .int .i64 (u : Nat), .int .i64 (z : Nat)] rfl rfl hNews (by simp [Value.oneCell']) (by decide) (by unfold maxLen; omega) (by omega) (by simp; omega) _ rfl ?_; intro g5 c5 w5 hn5 hg5 _ _; have bP5 := BoxN.grown' bP2 hg5 (Hgr.out _ rfl).1; have bM5 := BoxN.grown' bM2 hg5 (Hgr.out _ rfl).2.1; have hB5 := hB2.grown hg5 (by simp; omega) (Hgr.out _ rfl).2.2; have q3 := bP5.cell 3; simp only [List.getElem?_toArray, List.getElem?_cons_succ, List.getElem?_cons_zero] at q3; have ql := bP5.lt)
        exact ⟨⟨k + 1, some ⟨g5, 0, none⟩, c5, by omega, by go_num, by rw [hes.out]; go_num, rfl, by rw [hls.out, hrg.out]; exact hn5, bM5, hB5⟩, by simp [intOf]; omega⟩
      · obtain rfl : k = n := by omega
        have hl := bM.lt
        have m1 := bM.cell 1
        simp at m1
        have hG := isG_of_own hown
        have hcap := own_cap hown
        by_cases hfull : mem < (endA ns k : Nat)
        · have hr := Lib.hid (layR_full Hok.out (by rw [HZL.out, Hns.out]; exact hfull))
          go_wp2_with fail
          go_ret2
          exact ⟨none, 0, by rw [hr.out]; rfl, by rw [hr.out]; exact isG.nil _ _, hB, by rw [hr.out]; exact Nat.le_refl _⟩
        · have hr := Lib.hid (layR_ok Hok.out (by rw [HZL.out, Hns.out]; exact hfull))
          rw [HZL.out, Hns.out] at hr
          have hd : decide (mem < (endA ns k : Nat)) = false := decide_eq_false hfull
          clear hown
          go_wp2_with fail
          go_ret2
          exact ⟨G, cc, by rw [hr.out]; simp only [layA_len]; rfl, by rw [hr.out]; exact hG, hB, by rw [hr.out]; simp only [layA_len]; exact hcap⟩
end Me
end Go.Proofs.Ytdhofaiogbpjpaa
