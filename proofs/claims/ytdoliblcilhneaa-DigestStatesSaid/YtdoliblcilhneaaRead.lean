/- The contract of read: the digits of a text. -/
import Derived.Test.YtdoliblcilhneaaText
namespace Go.Proofs.Ytdoliblcilhneaa
open Go.RowKit Go.Joins

theorem results_row_tmp {P : Program} {fn : Func} {p u : Tmp} {ty : TypeId} (h : fn.results = #[.cell p ty, .tmp u]) (tmps : Array Value) (w : World) (g : Nat) (t : TypeId) (cs : Array Value) (fr : Nat × Nat) (d : TypeDesc)
    (hp : tmps.getD p undef = .pointer (some ⟨g, 0, none⟩)) (hg : w.heap[g]? = some (.cells cs t fr))
    (hu : P.underlying ty = some d) (hd : (match d with | .struct _ | .array _ _ => true | _ => false) = true) (hi : (P.info? ty).map (·.size) = some cs.size) :
    (results fn tmps).run P w = .ok (.tuple #[.agg cs, tmps.getD u undef]) w := by
  have hp' : tmps[p]?.getD undef = .pointer (some ⟨g, 0, none⟩) := by simpa using hp
  simp [results, h, hp', asAddr, run_loadVar_row w g t ty cs fr d hg hu hd hi]

theorem bstr_size (l : List (BitVec 8)) : (bstr l).size = l.length := by
  show (bstr l).data.size = _
  simp [bstr]
theorem index_bstr (l : List (BitVec 8)) (k : Nat) (z : BitVec 8) (h : l[k]? = some z) (w : World) : (Instr.index 9 (.string (bstr l)) (.int .i64 k)).run Try.prog w = .ok (U8 z) w := by
  obtain ⟨hlt, he⟩ := List.getElem?_eq_some_iff.1 h
  have h1 := run_index_string (P := Try.prog) w 9 (bstr l) .i64 k Try.underlying9
  rw [dif_pos ⟨by omega, by rw [bstr_size]; omega⟩] at h1
  refine h1.trans ?_
  have h2 : (bstr l)[(k : Int).toNat]'(by rw [bstr_size]; simpa using hlt) = UInt8.ofBitVec z := by
    show (bstr l).data[k]'_ = _
    simp [bstr, he]
  rw [h2]; rfl

/-- The value of a digit, and whether it is one. -/
def good (c : BitVec 8) : Bool := decide (48 ≤ c.toNat ∧ c.toNat ≤ 57 ∨ 97 ≤ c.toNat ∧ c.toNat ≤ 102)
def hv (c : BitVec 8) : BitVec 8 := if c.toNat ≤ 57 then c - 48#8 else c - 87#8
def okL (l : List (BitVec 8)) : Bool := decide (l.length = 16) && l.all good
def ReadPost (l : List (BitVec 8)) (w : World) (e : Ending) (w' : World) : Prop :=
  e = .returned (.tuple #[.agg (rowB (if okL l then l.map hv else List.replicate 16 0#8)), .bool (okL l)]) ∧ Below w.heap.size w w'
def hvF (l : List (BitVec 8)) (i : Nat) : BitVec 8 := hv (l.getD i 0#8)
theorem parB_map (l : List (BitVec 8)) (h : l.length = 16) : parB 16 (hvF l) 16 = rowB (l.map hv) := by
  have := parB_full 16 (hvF l)
  apply Array.ext'
  rw [this]
  unfold rowB cellsB
  have e : (List.range 16).map (hvF l) = l.map hv := by
    apply List.ext_getElem?
    intro i
    by_cases hi : i < 16
    · rw [List.getElem?_map, List.getElem?_map, List.getElem?_range hi]
      simp [hvF, List.getD_eq_getElem?_getD, List.getElem?_eq_getElem (show i < l.length by omega)]
    · rw [List.getElem?_eq_none (by simp; omega), List.getElem?_eq_none (by simp; omega)]
  rw [e]

theorem okL_len {l : List (BitVec 8)} (h : l.length ≠ 16) : okL l = false := by unfold okL; simp [h]
theorem okL_bad {l : List (BitVec 8)} {k : Nat} {z : BitVec 8} (h : l[k]? = some z) (hb : good z = false) : okL l = false := by
  unfold okL
  have : l.all good = false := by
    rw [List.all_eq_false]
    exact ⟨z, List.mem_of_getElem? h, by rw [hb]; decide⟩
  rw [this, Bool.and_false]
theorem okL_all {l : List (BitVec 8)} (h : l.length = 16) (hg : ∀ (j : Nat) z, l[j]? = some z → good z = true) : okL l = true := by
  unfold okL
  rw [decide_eq_true h, Bool.true_and, List.all_eq_true]
  intro z hz
  obtain ⟨j, hj⟩ := List.getElem?_of_mem hz
  exact hg j z hj
theorem sub8 (c : BitVec 8) (k : BitVec 8) (h : k.toNat ≤ c.toNat) : (c.toNat : Int) - (k.toNat : Int) = ((c - k).toNat : Int) := by
  rw [BitVec.toNat_sub_of_le (by rw [BitVec.le_def]; exact h)]; omega

set_option maxRecDepth 100000 in
set_option maxHeartbeats 2000000 in
theorem read_any (l : List (BitVec 8)) (w : World) :
    Calls Try.prog 27 #[.string (bstr l)] w (ReadPost l w) := by
  have hz := zero_dig
  have hbs := bstr_size l
  obtain ⟨Z, hZ⟩ : ∃ Z, rowB (List.replicate 16 0#8) = Z := ⟨_, rfl⟩
  have hbu : ∀ w : World, (Instr.build 51 #[]).run Try.prog w = .ok (.agg Z) w := fun w => by rw [← hZ]; kernel_rfl
  rw [hZ] at hz
  have HZ := Lib.hid hZ
  have hZs : Z.size = 16 := by rw [← hZ, rowB_size]; rfl
  have hZo : Z.all (·.oneCell') = true := by rw [← hZ]; exact rowB_one _
  have hZi : (Try.prog.info? 51).map (·.size) = some Z.size := by rw [hZs]; exact info_dig
  have hZp : Hid (parB 16 (hvF l) 0 = Z) := by
    unfold Hid; rw [parB_zero, ← hZ]; rfl
  clear hZ
  have b0 : BoxN ((w.alloc (.cells Z 51)).alloc (.cells Z 51)) w.heap.size 51 Z := (BoxN.new w _ _).alloc _
  have b1 : BoxN ((w.alloc (.cells Z 51)).alloc (.cells Z 51)) (w.heap.size + 1) 51 Z := by
    have := BoxN.new (w.alloc (.cells Z 51)) 51 Z
    rwa [World.size_alloc] at this
  have hB : Below w.heap.size w ((w.alloc (.cells Z 51)).alloc (.cells Z 51)) := ((Below.refl _ w).alloc (Nat.le_refl _) _).alloc (by simp) _
  by_cases h16 : l.length = 16
  · have hn : ((l.length : Int) != 16) = false := by rw [bne_eq_false_iff_eq]; omega
    have H16 := Lib.hid h16
    have hix : Hid (∀ (k : Nat) (z : BitVec 8), l[k]? = some z → ∀ w, (Instr.index 9 (.string (bstr l)) (.int .i64 k)).run Try.prog w = .ok (U8 z) w) := fun k z h w => index_bstr l k z h w
    clear h16
    go_enter Try.func27, Try.ntmps27
    go_wp2_with fail
    clear hz hn hbs
    generalize (w.alloc (.cells Z 51)).alloc (.cells Z 51) = W0 at b0 b1 hB ⊢
    generalize l.length = nl
    obtain ⟨g, hg⟩ : ∃ g, w.heap.size = g := ⟨_, rfl⟩
    rw [hg] at b0 b1 hB ⊢
    have HG := Lib.hid hg
    clear hg
    obtain ⟨g1, hg1⟩ : ∃ g1, g + 1 = g1 := ⟨_, rfl⟩
    rw [hg1] at b1 ⊢
    have d01 : g ≠ g1 := by omega
    have d10 : g1 ≠ g := by omega
    have l1 : g ≤ g1 := by omega
    clear hg1
    rw [← hZp.out] at b1
    go_loopw [11] (fun i wr => ∃ k : Nat, k ≤ 16 ∧ i = .int .i64 k ∧ Hid (∀ (j : Nat) z, j < k → l[j]? = some z → good z = true) ∧ BoxN wr g 51 Z ∧ BoxN wr g1 51 (parB 16 (hvF l) k) ∧ Below g w wr)
      (fun i _ => 16 - (intOf i).toNat)
    case atStart => exact ⟨0, by omega, rfl, fun j z h => absurd h (Nat.not_lt_zero j), b0, b1, hB⟩
    case round =>
      clear b0 b1 hB
      obtain ⟨k, hk, rfl, hgo, b0, b1, hB⟩ := hrel
      by_cases hlt : k < 16
      · have hd : decide ((k : Int) < 16) = true := by simp; omega
        have hgk : l[k]? = some (l[k]'(by rw [H16.out]; exact hlt)) := List.getElem?_eq_getElem _
        obtain ⟨c, hc⟩ : ∃ c, l[k]'(by rw [H16.out]; exact hlt) = c := ⟨_, rfl⟩
        rw [hc] at hgk
        have hi := hix.out k c hgk
        have hlk : Hid (hvF l k = hv c) := by unfold Hid hvF; rw [List.getD_eq_getElem?_getD, hgk]; rfl
        have hbad : Hid (good c = false → okL l = false) := fun h => okL_bad hgk h
        have hgood : Hid (good c = true → ∀ (j : Nat) z, j < k + 1 → l[j]? = some z → good z = true) := fun h j z hj hz => by
          by_cases e : j = k
          · subst e; rw [hgk] at hz; cases hz; exact h
          · exact hgo.out j z (by omega) hz
        have hc255 := c.isLt
        have b0' : _ = some (Obj.cells Z 51 (0, 0)) := b0
        have hRi : (Try.prog.info? 51).map (·.size) = some (rowB (List.replicate 16 0#8)).size := by rw [rowB_size]; exact info_dig
        have hRs : Z.size = (rowB (List.replicate 16 0#8)).size := by rw [rowB_size]; exact hZs
        have hRo := rowB_one (List.replicate 16 0#8)
        have b3' : _ = some (Obj.cells (rowB (List.replicate 16 0#8)) 51 (0, 0)) := b0.setRow (rowB (List.replicate 16 0#8))
        have hB4 := below_setRow hB (Nat.le_refl g) (rowB (List.replicate 16 0#8))
        have c1 := b1.cell k
        rw [parB_get 16 _ k k hlt, if_neg (Nat.lt_irrefl k)] at c1
        have f1 := b1.frozen k
        have hbl := b1.lt
        have hs : Hid ((parB 16 (hvF l) k).setIfInBounds k (U8 (hvF l k)) = parB 16 (hvF l) (k + 1)) := parB_set 16 _ k hlt
        rw [hlk.out] at hs
        have hb2 := Lib.hid (b1.set1 k (U8 (hv c)))
        have hb3 := Lib.hid (b0.far (p := ⟨g1, k, none⟩) d01 (U8 (hv c)))
        have hB3 := Lib.hid (hB.setCell (p := ⟨g1, k, none⟩) l1 (U8 (hv c)))
        clear hgk hc b0 b1 hB hgo hix
        rcases (by omega : c.toNat < 48 ∨ (48 ≤ c.toNat ∧ c.toNat ≤ 57) ∨ (58 ≤ c.toNat ∧ c.toNat ≤ 96) ∨ (97 ≤ c.toNat ∧ c.toNat ≤ 102) ∨ 103 ≤ c.toNat) with h | ⟨h, h'⟩ | ⟨h, h'⟩ | ⟨h, h'⟩ | h
        · have hok := Lib.hid (hbad.out (by unfold good; rw [decide_eq_false]; omega))
          have q1 : decide ((48 : Int) ≤ c.toNat) = false := by simp; omega
          have q3 : decide ((97 : Int) ≤ c.toNat) = false := by simp; omega
          clear hbad hgood hlk hb2 hb3 hB3 hs hc255
          go_wp2_with (refine wpList_store_rowTo rfl 51 _ _ rfl rfl g (rowB (List.replicate 16 0#8)) rfl rfl _ Z b0' hRi hRs hRo ?_)
          exact bodyPost_ret (v := .tuple #[.agg (rowB (List.replicate 16 0#8)), .bool false]) (results_row_tmp Try.results27 _ _ g _ _ _ _ rfl b3' Try.underlying51 rfl hRi) rfl ⟨by rw [hok.out]; rfl, by rw [HG.out]; exact hB4⟩
        · have hg1 := Lib.hid (hgood.out (by unfold good; rw [decide_eq_true]; omega))
          have hv1 : Hid (hv c = c - 48#8) := by unfold Hid hv; rw [if_pos h']
          have e1 := sub8 c 48#8 h
          rw [show ((48#8).toNat : Int) = 48 from rfl] at e1
          have q1 : decide ((48 : Int) ≤ c.toNat) = true := by simp; omega
          have q2 : decide ((c.toNat : Int) ≤ 57) = true := by simp; omega
          rw [hv1.out] at hb2 hb3 hB3 hs
          generalize c - 48#8 = y at e1 hb2 hb3 hB3 hs
          clear hv1 hbad hgood hlk
          go_wp2_with fail
          go_roundw
          case rel => exact ⟨k + 1, by omega, by go_num, hg1, hb3.out, by rw [← hs.out]; exact hb2.out, hB3.out⟩
          case measure => simp [intOf]; omega
        · have hok := Lib.hid (hbad.out (by unfold good; rw [decide_eq_false]; omega))
          have q1 : decide ((48 : Int) ≤ c.toNat) = true := by simp; omega
          have q2 : decide ((c.toNat : Int) ≤ 57) = false := by simp; omega
          have q3 : decide ((97 : Int) ≤ c.toNat) = false := by simp; omega
          clear hbad hgood hlk hb2 hb3 hB3 hs hc255
          go_wp2_with (refine wpList_store_rowTo rfl 51 _ _ rfl rfl g (rowB (List.replicate 16 0#8)) rfl rfl _ Z b0' hRi hRs hRo ?_)
          exact bodyPost_ret (v := .tuple #[.agg (rowB (List.replicate 16 0#8)), .bool false]) (results_row_tmp Try.results27 _ _ g _ _ _ _ rfl b3' Try.underlying51 rfl hRi) rfl ⟨by rw [hok.out]; rfl, by rw [HG.out]; exact hB4⟩
        · have hg1 := Lib.hid (hgood.out (by unfold good; rw [decide_eq_true]; omega))
          have hv1 : Hid (hv c = c - 87#8) := by unfold Hid hv; rw [if_neg (by omega)]
          have e1 := sub8 c 97#8 h
          have e2 : ((c - 97#8).toNat : Int) + 10 = ((c - 87#8).toNat : Int) := by
            rw [← sub8 c 97#8 h, ← sub8 c 87#8 (by show 87 ≤ _; omega)]
            show (c.toNat : Int) - 97 + 10 = c.toNat - 87
            omega
          rw [show ((97#8).toNat : Int) = 97 from rfl] at e1
          have q1 : decide ((48 : Int) ≤ c.toNat) = true := by simp; omega
          have q2 : decide ((c.toNat : Int) ≤ 57) = false := by simp; omega
          have q3 : decide ((97 : Int) ≤ c.toNat) = true := by simp; omega
          have q4 : decide ((c.toNat : Int) ≤ 102) = true := by simp; omega
          have hyl : (c - 97#8).toNat ≤ 5 := by have := sub8 c 97#8 h; rw [show ((97#8).toNat : Int) = 97 from rfl] at this; omega
          rw [hv1.out] at hb2 hb3 hB3 hs
          generalize c - 87#8 = y at e2 hb2 hb3 hB3 hs
          generalize c - 97#8 = x at e1 e2 hyl
          clear hv1 hbad hgood hlk
          go_wp2_with fail
          go_roundw
          case rel => exact ⟨k + 1, by omega, by go_num, hg1, hb3.out, by rw [← hs.out]; exact hb2.out, hB3.out⟩
          case measure => simp [intOf]; omega
        · have hok := Lib.hid (hbad.out (by unfold good; rw [decide_eq_false]; omega))
          have q1 : decide ((48 : Int) ≤ c.toNat) = true := by simp; omega
          have q2 : decide ((c.toNat : Int) ≤ 57) = false := by simp; omega
          have q3 : decide ((97 : Int) ≤ c.toNat) = true := by simp; omega
          have q4 : decide ((c.toNat : Int) ≤ 102) = false := by simp; omega
          clear hbad hgood hlk hb2 hb3 hB3 hs hc255
          go_wp2_with (refine wpList_store_rowTo rfl 51 _ _ rfl rfl g (rowB (List.replicate 16 0#8)) rfl rfl _ Z b0' hRi hRs hRo ?_)
          exact bodyPost_ret (v := .tuple #[.agg (rowB (List.replicate 16 0#8)), .bool false]) (results_row_tmp Try.results27 _ _ g _ _ _ _ rfl b3' Try.underlying51 rfl hRi) rfl ⟨by rw [hok.out]; rfl, by rw [HG.out]; exact hB4⟩
      · obtain rfl : k = 16 := by omega
        rw [parB_map l H16.out] at b1
        have hok : Hid (okL l = true) := okL_all H16.out fun j z hj => hgo.out j z (by
          have := (List.getElem?_eq_some_iff.1 hj).1
          rw [H16.out] at this; exact this) hj
        have hi2 : (Try.prog.info? 51).map (·.size) = some (rowB (l.map hv)).size := by rw [rowB_size, List.length_map, H16.out]; exact info_dig
        have ho2 := rowB_one (l.map hv)
        have hs2 : Z.size = (rowB (l.map hv)).size := by rw [rowB_size, List.length_map, H16.out]; exact hZs
        obtain ⟨T, hT⟩ : ∃ T, rowB (l.map hv) = T := ⟨_, rfl⟩
        rw [hT] at b1 hi2 ho2 hs2
        have HT := Lib.hid hT
        have b2 := b0.setRow T
        have hB2 := below_setRow hB (Nat.le_refl g) T
        have b0' : _ = some (Obj.cells Z 51 (0, 0)) := b0
        have b1' : _ = some (Obj.cells T 51 (0, 0)) := b1
        have b2' : _ = some (Obj.cells T 51 (0, 0)) := b2
        clear hT b0 b1 b2 hB hgo hix hZs hZo hZi
        go_wp2_with (first | (refine wpList_load_row rfl 51 _ rfl g1 rfl _ T _ _ b1' Try.underlying51 rfl hi2 ?_) | (refine wpList_store_rowTo rfl 51 _ _ rfl rfl g T rfl rfl _ Z b0' hi2 hs2 ho2 ?_))
        exact bodyPost_ret (v := .tuple #[.agg T, .bool true]) (results_row_tmp Try.results27 _ _ g _ T _ _ rfl b2' Try.underlying51 rfl hi2) rfl ⟨by rw [hok.out, ← HT.out]; rfl, by rw [HG.out]; exact hB2⟩
  · have hn : ((l.length : Int) != 16) = true := by rw [bne_iff_ne]; omega
    have hok := Lib.hid (okL_len h16)
    have b2 := b0.setRow Z
    have hB2 := below_setRow hB (Nat.le_refl _) Z
    have b0' : ((w.alloc (.cells Z 51)).alloc (.cells Z 51)).heap[w.heap.size]? = some (.cells Z 51 (0, 0)) := b0
    have b2' : (((w.alloc (.cells Z 51)).alloc (.cells Z 51)).setRow w.heap.size Z).heap[w.heap.size]? = some (.cells Z 51 (0, 0)) := b2
    clear b0 b1 b2 hB h16
    go_enter Try.func27, Try.ntmps27
    go_wp2_with (refine wpList_store_rowTo rfl 51 _ _ rfl rfl w.heap.size Z rfl rfl _ Z b0' hZi rfl hZo ?_)
    exact bodyPost_ret (v := .tuple #[.agg Z, .bool false]) (results_row_tmp Try.results27 _ _ w.heap.size _ Z _ _ rfl b2' Try.underlying51 rfl hZi) rfl ⟨by rw [hok.out, ← HZ.out]; rfl, hB2⟩
end Go.Proofs.Ytdoliblcilhneaa
