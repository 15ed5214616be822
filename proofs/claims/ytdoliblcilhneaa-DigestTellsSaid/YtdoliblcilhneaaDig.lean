/- The contracts of digitsOf and each: the digits of a number, handed on in order. -/
import Derived.Test.YtdoliblcilhneaaHands
namespace Go.Proofs.Ytdoliblcilhneaa
open Go.RowKit Go.Joins
attribute [local go_sem] Oper.semAt_some

theorem run_loadRow {P : Program} {W : World} {g : Nat} {t : TypeId} {cells : Array Value} (h : BoxN W g t cells) (n : Nat) (hn : cells.size = n) :
    (loadCells ⟨g, 0, none⟩ n).run P W = .ok cells W := by
  have := run_loadCells_list (P := P) W ⟨g, 0, none⟩ cells.toList (fun j v hv => by
    rw [Addr.add_lit, Nat.zero_add, h.cell j]
    simpa using hv)
  simpa [hn] using this
theorem run_storeRow {P : Program} {W : World} {g : Nat} {t : TypeId} {old cells : Array Value} (h : BoxN W g t old) (hs : old.size = cells.size) (h1 : cells.all (·.oneCell') = true) :
    (storeCells ⟨g, 0, none⟩ cells.toList).run P W = .ok () (W.setRow g cells) := by
  have := run_storeCells_from (P := P) g t cells.toList 0 old W h (by simp; omega) (fun v hv => (Array.all_eq_true_iff_forall_mem.1 h1) v (by simpa using hv))
  simpa using this
/-- A whole array is loaded within a fence, by an operation that its guard lets run. -/
theorem wpListIn_load_rowG {F : Fence} {n : Nat} {P : Program} {ops : Array Oper} {rest : List Oper} {o : Oper} {a : Act} {w : World} {Q : Exit → Act → World → Prop} (hw : Region.wanted o (yielded ops a.tmps) = true) (ty : TypeId) (x : Operand) (ho : o.op = .load ty x)
    (g : Nat) (hx : a.eval x = .pointer (some ⟨g, 0, none⟩)) (t : TypeId) (cs : Array Value) (d : TypeDesc) (hg : BoxN w g t cs)
    (hu : P.underlying ty = some d) (hd : (match d with | .struct _ | .array _ _ => true | _ => false) = true) (hi : (P.info? ty).map (·.size) = some cs.size)
    (h : wpListIn F n P ops Q rest (a.put o.dst (.agg cs)) w) : wpListIn F n P ops Q (o :: rest) a w := by
  refine wpListIn_step fun K hK' => ?_
  rw [hw, if_pos rfl]
  unfold Oper.wpIn
  refine ⟨?_, ?_⟩
  · simp [Oper.about, ho]
  · rw [Oper.semAt_plain F _ _ (by rw [ho]; intro c hc'; cases hc')]
    simp only [execOp, ho, hx, Instr.loadAt, Instr.sureAddr, Sem.run_bind, Sem.run_pure, Result.andThen_ok, run_loadVar_row w g t ty cs (0, 0) d hg hu hd hi]
    exact hK' _ _ h

/-- Digit i of a number, the most significant one first. -/
def digF (d : BitVec 64) (i : Nat) : BitVec 8 := ((d >>> (4 * (15 - i))) &&& 15#64).setWidth 8
def digs (d : BitVec 64) : List (BitVec 8) := (List.range 16).map (digF d)
theorem digs_len (d : BitVec 64) : (digs d).length = 16 := by simp [digs]
/-- The row of the digits from j on. -/
def dRow (d : BitVec 64) (j : Nat) : Array Value := ((List.range 16).map fun i => if j ≤ i then U8 (digF d i) else .int .u8 0).toArray
theorem dRow_size (d : BitVec 64) (j : Nat) : (dRow d j).size = 16 := by simp [dRow]
theorem dRow_get (d : BitVec 64) (j i : Nat) (h : i < 16) : (dRow d j)[i]? = some (if j ≤ i then U8 (digF d i) else .int .u8 0) := by
  simp [dRow, h]
theorem dRow_set (d : BitVec 64) (m : Nat) (h : m < 16) : (dRow d (m + 1)).setIfInBounds m (U8 (digF d m)) = dRow d m := by
  apply Array.ext_getElem?
  intro i
  rw [Array.getElem?_setIfInBounds]
  by_cases hi : i < 16
  · rw [dRow_get d _ i hi, dRow_get d _ i hi, dRow_size]
    by_cases e : m = i
    · subst e; simp [h]
    · rw [if_neg e]
      by_cases h1 : m + 1 ≤ i
      · rw [if_pos h1, if_pos (by omega)]
      · rw [if_neg h1, if_neg (by omega)]
  · rw [if_neg (by omega), Array.getElem?_eq_none (by rw [dRow_size]; omega), Array.getElem?_eq_none (by rw [dRow_size]; omega)]
theorem dRow_one (d : BitVec 64) (j : Nat) : (dRow d j).all (·.oneCell') = true := by
  simp only [dRow, List.all_toArray, List.all_eq_true, List.mem_map]
  rintro v ⟨i, _, rfl⟩
  split <;> rfl
/-- A list of bytes as an array. -/
def rowB (l : List (BitVec 8)) : Array Value := (cellsB l).toArray
theorem rowB_size (l : List (BitVec 8)) : (rowB l).size = l.length := by simp [rowB, cellsB]
theorem rowB_get (l : List (BitVec 8)) (k : Nat) : (rowB l)[k]? = l[k]?.map U8 := by simp [rowB, cellsB]
theorem rowB_one (l : List (BitVec 8)) : (rowB l).all (·.oneCell') = true := by
  simp only [rowB, List.all_toArray, List.all_eq_true]
  exact cellsB_one l
theorem dRow_full (d : BitVec 64) : dRow d 0 = rowB (digs d) := by
  unfold dRow rowB cellsB digs
  rw [List.map_map]
  congr 1
theorem dRow_none (d : BitVec 64) : dRow d 16 = rowB (List.replicate 16 0#8) := by
  unfold dRow rowB cellsB
  congr 1
theorem info_dig : (Try.prog.info? 51).map (·.size) = some 16 := by kernel_rfl
theorem zero_dig : ∀ w : World, (zeroValue 51).run Try.prog w = .ok (.agg (rowB (List.replicate 16 0#8))) w := fun _ => by kernel_rfl
theorem and15 (x : BitVec 64) : bits .and .u64 (x.toNat : Int) 15 = ((x &&& 15#64).toNat : Int) := and64 x 15#64

set_option maxRecDepth 100000 in
set_option maxHeartbeats 1000000 in
theorem digitsOf_any (d : BitVec 64) (w : World) :
    Calls Try.prog 32 #[U64 d] w fun e w' => e = .returned (.agg (rowB (digs d))) ∧ Below w.heap.size w w' := by
  have hz := zero_dig
  rw [← dRow_none d] at hz
  obtain ⟨Z, hZ⟩ : ∃ Z, dRow d 16 = Z := ⟨_, rfl⟩
  rw [hZ] at hz
  have HZ := Lib.hid hZ
  have hZs : Z.size = 16 := by rw [← hZ, dRow_size]
  clear hZ
  go_enter Try.func32, Try.ntmps32
  go_wp2_with fail
  clear hz
  have b0 : BoxN ((w.alloc (.cells Z 51)).alloc (.cells Z 51)) w.heap.size 51 Z := (BoxN.new w _ _).alloc _
  have b1 : BoxN ((w.alloc (.cells Z 51)).alloc (.cells Z 51)) (w.heap.size + 1) 51 Z := by
    have := BoxN.new (w.alloc (.cells Z 51)) 51 Z
    rwa [World.size_alloc] at this
  have hB : Below w.heap.size w ((w.alloc (.cells Z 51)).alloc (.cells Z 51)) := ((Below.refl _ w).alloc (Nat.le_refl _) _).alloc (by simp) _
  generalize (w.alloc (.cells Z 51)).alloc (.cells Z 51) = W at b0 b1 hB ⊢
  obtain ⟨g, hg⟩ : ∃ g, w.heap.size = g := ⟨_, rfl⟩
  rw [hg] at b0 b1 hB ⊢
  have HG := Lib.hid hg
  clear hg
  obtain ⟨g1, hg1⟩ : ∃ g1, g + 1 = g1 := ⟨_, rfl⟩
  rw [hg1] at b1 ⊢
  have d01 : g ≠ g1 := by omega
  have d10 : g1 ≠ g := by omega
  have l1 : g ≤ g1 := by omega
  clear hg1
  rw [← HZ.out] at b1
  go_loopw [0, 4] (fun r i wr => ∃ j : Nat, j ≤ 16 ∧ i = .int .i64 ((j : Int) - 1) ∧ r = U64 (d >>> (4 * (16 - j))) ∧ BoxN wr g 51 Z ∧ BoxN wr g1 51 (dRow d j) ∧ Below g w wr)
    (fun _ i _ => (intOf i + 1).toNat)
  case atStart => exact ⟨16, by omega, rfl, by simp, b0, b1, hB⟩
  case round =>
    clear b0 b1 hB
    obtain ⟨j, hj, rfl, rfl, b0, b1, hB⟩ := hrel
    by_cases h0 : j = 0
    · subst h0
      rw [dRow_full] at b1
      rw [show ((0 : Nat) : Int) - 1 = -1 from rfl]
      generalize d >>> (4 * (16 - 0)) = x
      have hi : (Try.prog.info? 51).map (·.size) = some (rowB (digs d)).size := by rw [rowB_size, digs_len]; exact info_dig
      have ho := rowB_one (digs d)
      have hs : Z.size = (rowB (digs d)).size := by rw [rowB_size, digs_len]; exact hZs
      have b2 : BoxN (wr.setRow g (rowB (digs d))) g 51 (rowB (digs d)) := b0.setRow _
      have hB2 := below_setRow hB (Nat.le_refl g) (rowB (digs d))
      obtain ⟨T, hT⟩ : ∃ T, rowB (digs d) = T := ⟨_, rfl⟩
      rw [hT] at b1 hi ho hs b2 hB2
      have HT := Lib.hid hT
      clear hT hZs hB
      have b0' : wr.heap[g]? = some (.cells Z 51 (0, 0)) := b0
      have b1' : wr.heap[g1]? = some (.cells T 51 (0, 0)) := b1
      have b2' : (wr.setRow g T).heap[g]? = some (.cells T 51 (0, 0)) := b2
      clear b0 b1 b2
      go_wp2_with (first | (refine wpList_load_row rfl 51 _ rfl g1 rfl _ T _ _ b1' Try.underlying51 rfl hi ?_) | (refine wpList_store_rowTo rfl 51 _ _ rfl rfl g T rfl rfl _ Z b0' hi hs ho ?_))
      exact bodyPost_ret (v := .agg T) (results_cell_row Try.results32 _ _ g _ T _ _ rfl b2' Try.underlying51 rfl hi) rfl ⟨by rw [HT.out], by rw [HG.out]; exact hB2⟩
    · obtain ⟨m, rfl⟩ : ∃ m, j = m + 1 := ⟨j - 1, by omega⟩
      rw [show ((m + 1 : Nat) : Int) - 1 = (m : Int) by omega]
      have hm : m < 16 := by omega
      have c1 := b1.cell m
      rw [dRow_get d (m + 1) m hm, if_neg (by omega)] at c1
      have f1 := b1.frozen m
      have hbl := b1.lt
      have hs : Hid ((dRow d (m + 1)).setIfInBounds m (U8 (digF d m)) = dRow d m) := dRow_set d m hm
      have hn : Hid (d >>> (4 * (16 - m)) = d >>> (4 * (16 - (m + 1))) >>> 4) := by
        unfold Hid; rw [← BitVec.shiftRight_add]; congr 1; omega
      have hy : Hid (digF d m = ((d >>> (4 * (16 - (m + 1)))) &&& 15#64).setWidth 8) := by
        unfold Hid digF; rw [show 15 - m = 16 - (m + 1) by omega]
      generalize d >>> (4 * (16 - (m + 1))) = x at hn hy ⊢
      have e1 := and15 x
      have e3 := low8 (x &&& 15#64)
      have e2 := shr64 x 4 16 (by decide)
      generalize (x &&& 15#64).setWidth 8 = y at e3 hy
      generalize x &&& 15#64 = z at e1 e3
      generalize x >>> 4 = x' at e2 hn
      have hb2 := Lib.hid (b1.set1 m (U8 y))
      have hb3 := Lib.hid (b0.far (p := ⟨g1, m, none⟩) d01 (U8 y))
      have hB2 := Lib.hid (hB.setCell (p := ⟨g1, m, none⟩) l1 (U8 y))
      clear b0 b1 hB hZs
      go_wp2_with fail
      go_roundw
      case rel => exact ⟨m, by omega, rfl, by rw [hn.out], hb3.out, by rw [← hs.out, hy.out]; exact hb2.out, hB2.out⟩
      case measure => simp [intOf] <;> omega

theorem each_any (R : Array Value) (w : World) :
    Calls Try.prog 28 #[.agg R] w fun e w' => e = .returned (.func (.func 33) #[] #[.pointer (some ⟨w.heap.size, 0, none⟩)]) ∧ w' = w.alloc (.cells R 51) := by
  go_enter Try.func28, Try.ntmps28
  go_wp2
  go_ret
  exact ⟨rfl, rfl⟩

/-- An element of an array by value. -/
theorem run_index_dig {R : Array Value} {k : Nat} {z : BitVec 8} (hk : k < 16) (h : R[k]? = some (U8 z)) (w : World) :
    (Instr.index 51 (.agg R) (.int .i64 k)).run Try.prog w = .ok (U8 z) w := by
  have h1 : (0 : Int) ≤ (k : Int) ∧ (k : Int) < (16 : Nat) := by omega
  simp [Instr.index, run_underlying Try.underlying51, asIntOf, go_sem, part]
  rw [if_pos hk, h]; rfl

def enc8 (x : BitVec 8) : Array Value := #[U8 x]

set_option maxRecDepth 100000 in
set_option maxHeartbeats 2000000 in
theorem each1_in (n : Nat) (hn : 1 ≤ n) (l Bn : Nat) (L : List (BitVec 8)) (hL : L.length = 16) (J : List (BitVec 8) → World → Prop) (W : World)
    (hY : ∀ pre x W1, J pre W1 → pre ++ [x] <+: L → YieldAt Fence.wide (n - 1) Try.prog l (enc8 x) W1 fun e W' => e = .returned (.bool true) ∧ J (pre ++ [x]) W')
    (hBn : BoxN W Bn 51 (rowB L)) (h0 : J [] W) :
    CallsIn Fence.wide n Try.prog 33 #[.func (.yield l) #[] #[], .pointer (some ⟨Bn, 0, none⟩)] W fun e W' => (∃ v, e = .returned v) ∧ J L W' := by
  have hro : Fence.wide.round = none := rfl
  have hi : (Try.prog.info? 51).map (·.size) = some (rowB L).size := by rw [rowB_size, hL]; exact info_dig
  have HR : Hid (∀ k z, L[k]? = some z → (rowB L)[k]? = some (U8 z)) := fun k z h => by rw [rowB_get, h]; rfl
  have hRs : (rowB L).size = 16 := by rw [rowB_size, hL]
  generalize rowB L = R at hi HR hRs hBn
  have HY := Lib.hid hY
  have H0 := Lib.hid h0
  have HL := Lib.hid hL
  clear hY h0 hL
  refine callsIn_of_wp Try.func33 rfl trivial ?_ hro
  simp only [Try.ntmps33, List.size_toArray, List.length_cons, List.length_nil, Nat.reduceAdd, Nat.reduceSub, Array.replicate_succ, Array.replicate_zero, List.push_toArray, List.append_toArray, List.nil_append, List.cons_append]
  gi_wp2_with (refine wpListIn_load_rowG (by rfl) 51 _ rfl Bn rfl 51 R _ hBn Try.underlying51 rfl hi ?_)
  clear hi hBn
  gi_loopw [6] (fun i wr => ∃ k : Nat, k ≤ 16 ∧ i = .int .i64 k ∧ J (L.take k) wr)
    (fun i _ => 16 - (intOf i).toNat)
  case atStart => exact ⟨0, by omega, rfl, H0.out⟩
  case round =>
    obtain ⟨k, hk, rfl, hj⟩ := hrel
    by_cases hlt : k < 16
    · have hd : decide ((k : Int) < 16) = true := by simp; omega
      have hgk : L[k]? = some (L[k]'(by rw [HL.out]; exact hlt)) := List.getElem?_eq_getElem _
      obtain ⟨z, hz⟩ : ∃ z, L[k]'(by rw [HL.out]; exact hlt) = z := ⟨_, rfl⟩
      rw [hz] at hgk
      have ck := run_index_dig hlt (HR.out k z hgk)
      have ht := take_snoc' hgk
      obtain ⟨fn, tmps, assign, body, hyy, hR⟩ := HY.out (L.take k) z _ hj (by rw [← ht]; exact List.take_prefix _ _)
      rw [← ht] at hR
      have HRR := Lib.hid hR
      clear hR ht hz hgk
      unfold enc8 at hyy
      gi_wp2_with fail
      refine HRR.out.mono ?_
      rintro e W3 ⟨rfl, hj3⟩
      clear hyy HRR hj ck
      gi_wp2_with fail
      go_roundw
      case rel => exact ⟨k + 1, by omega, by go_num, hj3⟩
      case measure => simp [intOf]; omega
    · obtain rfl : k = 16 := by omega
      have hj' : Hid (J L wr) := by unfold Hid; rw [List.take_of_length_le (by rw [HL.out]; omega)] at hj; exact hj
      gi_wp2_with fail
      go_end0
      exact ⟨⟨_, rfl⟩, hj'.out⟩

theorem each_hands (Bn : Nat) (L : List (BitVec 8)) (hL : L.length = 16) (n : Nat) (hn : 1 ≤ n) (w : World) (hBn : BoxN w Bn 51 (rowB L)) :
    HandsQ Fence.wide n Try.prog 33 #[.pointer (some ⟨Bn, 0, none⟩)] enc8 L w := fun l J W hW hY h0 =>
  each1_in n hn l Bn L hL J W hY (hBn.keep hW) h0
end Go.Proofs.Ytdoliblcilhneaa
