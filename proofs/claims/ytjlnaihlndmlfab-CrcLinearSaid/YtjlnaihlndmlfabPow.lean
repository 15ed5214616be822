/- The contracts of powers and of its function value: it hands on the matrices of the bits of n. -/
import Derived.Test.YtjlnaihlndmlfabHands
namespace Go.Proofs.Ytjlnaihlndmlfab
open Go.RowKit Go.Joins
attribute [local go_sem] Oper.semAt_some

/-- What the iterator wants kept: all cells but those of block b. -/
structure KpX (b : Nat) (W W' : World) : Prop where
  size : W.heap.size ≤ W'.heap.size
  same : ∀ k cs t, k ≠ b → W.heap[k]? = some (.cells cs t (0, 0)) → W'.heap[k]? = some (.cells cs t (0, 0))
theorem KpX.t {b : Nat} {A B C : World} (h : KpX b A B) (k : KpX b B C) : KpX b A C := ⟨Nat.le_trans h.size k.size, fun i cs t hi hc => k.same i cs t hi (h.same i cs t hi hc)⟩
theorem KpX.b {b : Nat} (W : World) (l : Nat) (o o' : Obj) (h : W.heap[l]? = some o) (ho : o.isCells = false) : KpX b W (W.putObj l o') := ⟨by simp, fun i cs t _ hc => by
  by_cases e : i = l
  · subst e; rw [h] at hc; cases hc; cases ho
  · rw [World.putObj_heap_other e]; exact hc⟩

/-- The columns of the matrix of c bytes 0. -/
def colF (c : Nat) (i : Nat) : BitVec 32 := it (8 * c) (1#32 <<< i)
def matOf (c : Nat) : List (BitVec 32) := (List.range 32).map (colF c)
theorem matOf_len (c : Nat) : (matOf c).length = 32 := by simp [matOf]
theorem matOf_getD (c i : Nat) (h : i < 32) : (matOf c).getD i 0#32 = colF c i := by
  rw [List.getD_eq_getElem?_getD]; simp [matOf, h]
/-- The low bits of a register. -/
def lowB (x : BitVec 32) (k : Nat) : BitVec 32 := x &&& BitVec.ofNat 32 (2 ^ k - 1)
theorem lowB_succ (x : BitVec 32) (k : Nat) (hk : k < 32) : lowB x (k + 1) = lowB x k ^^^ (if x.getLsbD k then 1#32 <<< k else 0#32) := by
  apply BitVec.eq_of_getLsbD_eq
  intro i hi
  have e : ∀ j, (BitVec.ofNat 32 (2 ^ j - 1)).getLsbD i = decide (i < j) := fun j => by
    rw [BitVec.getLsbD_ofNat, Nat.testBit_two_pow_sub_one]; simp [hi]
  rw [BitVec.getLsbD_xor]
  simp only [lowB, BitVec.getLsbD_and, e]
  by_cases hik : i = k
  · subst hik
    cases hx : x.getLsbD i <;> simp [hi]
  · have h1 : (if x.getLsbD k then 1#32 <<< k else 0#32 : BitVec 32).getLsbD i = false := by
      split
      · rw [BitVec.getLsbD_shiftLeft]
        by_cases h : i < k
        · simp [h]
        · have : i - k ≠ 0 := by omega
          simp [h, BitVec.getLsbD_one, this]
      · simp
    rw [h1, Bool.xor_false]
    congr 1
    rw [Bool.eq_iff_iff, decide_eq_true_iff, decide_eq_true_iff]; omega
theorem mulTo_of (c : Nat) (x : BitVec 32) : ∀ k, k ≤ 32 → mulTo (matOf c) x k = it (8 * c) (lowB x k)
  | 0, _ => by simp [mulTo, lowB, it_zero]
  | k + 1, hk => by
    rw [mulTo, mulTo_of c x k (by omega), lowB_succ x k (by omega), it_xor, matOf_getD c k (by omega)]
    congr 1
    split
    · rfl
    · rw [it_zero]
theorem lowB_all (x : BitVec 32) : lowB x 32 = x := by
  unfold lowB
  rw [show BitVec.ofNat 32 (2 ^ 32 - 1) = BitVec.allOnes 32 by decide, BitVec.and_allOnes]
/-- The product is the register after c bytes 0. -/
theorem mul_of (c : Nat) (x : BitVec 32) : mul (matOf c) x = it (8 * c) x := by
  unfold mul; rw [mulTo_of c x 32 (Nat.le_refl _), lowB_all]
theorem sq_of (c : Nat) : sq (matOf c) = matOf (2 * c) := by
  unfold sq
  rw [matOf.eq_def (2 * c)]
  apply List.map_congr_left
  intro i hi
  have hi := List.mem_range.1 hi
  rw [sqF, matOf_getD c i hi, mul_of]
  unfold colF
  rw [← it_add]; congr 1; omega

/-- The powers of two in a number, times c. -/
def bitsL : Nat → Nat → Nat → List Nat
  | 0, _, _ => []
  | f + 1, n, c => if n = 0 then [] else (if n % 2 = 1 then [c] else []) ++ bitsL f (n / 2) (2 * c)
theorem bitsL_sum : ∀ (f n c : Nat), n < 2 ^ f → (bitsL f n c).sum = n * c
  | 0, n, c, h => by have : n = 0 := by omega
                     subst this; simp [bitsL]
  | f + 1, n, c, h => by
    rw [bitsL]
    split
    · next h0 => subst h0; simp
    · rw [List.sum_append, bitsL_sum f (n / 2) (2 * c) (by omega)]
      rcases Nat.mod_two_eq_zero_or_one n with h1 | h1
      · rw [if_neg (by omega)]
        rw [show n / 2 * (2 * c) = (n / 2 * 2) * c by rw [Nat.mul_assoc], show n / 2 * 2 = n by omega]; simp
      · rw [if_pos h1, List.sum_singleton, show n / 2 * (2 * c) = (n / 2 * 2) * c by rw [Nat.mul_assoc]]
        have : n = n / 2 * 2 + 1 := by omega
        conv => rhs; rw [this, Nat.add_mul]
        omega
theorem run_storeRow {P : Program} {W : World} {g : Nat} {t : TypeId} {old cells : Array Value} (h : BoxN W g t old) (hs : old.size = cells.size) (h1 : cells.all (·.oneCell') = true) :
    (storeCells ⟨g, 0, none⟩ cells.toList).run P W = .ok () (W.setRow g cells) := by
  have := run_storeCells_from (P := P) g t cells.toList 0 old W h (by simp; omega) (fun v hv => (Array.all_eq_true_iff_forall_mem.1 h1) v (by simpa using hv))
  simpa using this
theorem run_loadRow {P : Program} {W : World} {g : Nat} {t : TypeId} {cells : Array Value} (h : BoxN W g t cells) (n : Nat) (hn : cells.size = n) :
    (loadCells ⟨g, 0, none⟩ n).run P W = .ok cells W := by
  have := run_loadCells_list (P := P) W ⟨g, 0, none⟩ cells.toList (fun j v hv => by
    rw [Addr.add_lit, Nat.zero_add, h.cell j]
    simpa using hv)
  simpa [hn] using this
/-- A whole array is loaded within a fence, by an operation that its guard lets run. -/
theorem wpListIn_load_rowG {F : Fence} {n : Nat} {P : Program} {ops : Array Oper} {rest : List Oper} {o : Oper} {a : Act} {w : World} {Q : Exit → Act → World → Prop} (hw : Region.wanted o (yielded ops a.tmps) = true) (ty : TypeId) (x : Operand) (ho : o.op = .load ty x)
    (g : Nat) (hx : a.eval x = .pointer (some ⟨g, 0, none⟩)) (t : TypeId) (cs : Array Value) (d : TypeDesc) (hg : BoxN w g t cs)
    (hu : P.underlying ty = some d) (hd : (match d with | .struct _ | .array _ _ => true | _ => false) = true) (hi : (P.info? ty).map (·.size) = some cs.size)
    (h : wpListIn F n P ops Q rest (a.put o.dst (.agg cs)) w) : wpListIn F n P ops Q (o :: rest) a w := by
  refine wpListIn_step fun K hK' => ?_
  rw [hw, if_pos rfl]
  unfold Oper.wpIn
  refine ⟨?_, ?_⟩
  · simp [Oper.about, ho]
  · rw [Oper.semAt_plain F _ _ (by rw [ho]; intro c hc'; cases hc')]
    simp only [execOp, ho, hx, Instr.loadAt, Instr.sureAddr, Sem.run_bind, Sem.run_pure, Result.andThen_ok, run_loadVar_row w g t ty cs (0, 0) d hg hu hd hi]
    exact hK' _ _ h
def encM (c : Nat) : Array Value := #[.agg (matRow (matOf c))]

theorem bitsL_odd {f n c : Nat} (h : n % 2 = 1) : bitsL (f + 1) n c = c :: bitsL f (n / 2) (2 * c) := by
  rw [bitsL, if_neg (by omega), if_pos h]; rfl
theorem bitsL_even {f n c : Nat} (h0 : n ≠ 0) (h : n % 2 = 0) : bitsL (f + 1) n c = bitsL f (n / 2) (2 * c) := by
  rw [bitsL, if_neg h0, if_neg (by omega)]; rfl
theorem bitsL_zero (f c : Nat) : bitsL f 0 c = [] := by cases f <;> simp [bitsL]
theorem and1_i64 (n : Nat) (h : n ≤ 1048576) : bits .and .i64 (n : Int) 1 = ((n % 2 : Nat) : Int) := by
  have h1 : (BitVec.ofInt 64 (n : Int)).toNat = n := by rw [BitVec.ofInt_natCast, BitVec.toNat_ofNat]; exact Nat.mod_eq_of_lt (by omega)
  show IntKind.i64.wrap ((BitVec.ofInt 64 (n : Int) &&& BitVec.ofInt 64 1).toNat : Int) = _
  rw [BitVec.toNat_and, h1, show (BitVec.ofInt 64 1).toNat = 1 by decide, Nat.and_one_is_mod]
  rcases Nat.mod_two_eq_zero_or_one n with h2 | h2 <;> rw [h2] <;> decide

set_option maxRecDepth 100000 in
set_option maxHeartbeats 4000000 in
theorem powers1_in (n : Nat) (hn : 1 ≤ n) (l Bn bA : Nat) (m : Nat) (hm : m ≤ 1048576) (J : List Nat → World → Prop) (W : World)
    (hJ : ∀ s A C, J s A → Ins W.heap.size A C → J s C)
    (hY : ∀ pre x W1, J pre W1 → pre ++ [x] <+: bitsL 21 m 1 → YieldAt Fence.wide (n - 1) Try.prog l (encM x) W1 fun e W' => e = .returned (.bool true) ∧ J (pre ++ [x]) W' ∧ KpX bA W1 W')
    (hA : bA < W.heap.size) (hBn : BoxN W Bn 3 #[.int .i64 m]) (h0 : J [] W) :
    CallsIn Fence.wide n Try.prog 22 #[.func (.yield l) #[] #[], .pointer (some ⟨Bn, 0, none⟩)] W fun e W' => (∃ v, e = .returned v) ∧ J (bitsL 21 m 1) W' := by
  have hro : Fence.wide.round = none := rfl
  have hz := zero_tab
  have hzm := zero_mat (colF 1)
  have hi : (Try.prog.info? 49).map (·.size) = some tab.size := by unfold tab; rw [tabRow_size]; exact info_tab
  have ho : tab.all (·.oneCell') = true := tabRow_one 256
  have hs : (tabRow 0).size = tab.size := by unfold tab; rw [tabRow_size, tabRow_size]
  generalize tabRow 0 = T0 at hz hs
  have HJ := Lib.hid hJ
  have HY := Lib.hid hY
  have H0 := Lib.hid h0
  clear hJ hY h0
  refine callsIn_of_wp Try.func22 rfl trivial ?_ hro
  simp only [Try.ntmps22, List.size_toArray, List.length_cons, List.length_nil, Nat.reduceAdd, Nat.reduceSub, Array.replicate_succ, Array.replicate_zero, List.push_toArray, List.append_toArray, List.nil_append, List.cons_append]
  gi_wp2_with fail
  refine ⟨trivial, ?_⟩
  (with_reducible refine (callsIn_wide.2 (zeroByte_any _)).mono ?_); rintro e w1 ⟨rfl, hb⟩
  have b0 : BoxN (w1.alloc (.cells T0 49)) w1.heap.size 49 T0 := BoxN.new w1 _ _
  have hst := run_storeRow (P := Try.prog) b0 hs ho
  have hsz : tab.size = 256 := by unfold tab; rw [tabRow_size]
  gi_wp2_with fail
  have b1 := b0.setRow tab
  have hI1 := (Ins.below hb (Nat.le_refl _)).trans ((Ins.alloc w1 (.cells T0 49) hb.size).trans (Ins.setRow b0 hb.size tab))
  have hgm : ((w1.alloc (.cells T0 49)).setRow w1.heap.size tab).heap.size = w1.heap.size + 1 := by simp
  have hge := hb.size
  generalize (w1.alloc (.cells T0 49)).setRow w1.heap.size tab = W1 at b1 hI1 hgm ⊢
  generalize w1.heap.size = g at b1 hgm hge ⊢
  clear b0 hst hs ho hi hz hb hsz
  have b2 := b1.alloc (.cells (parRow 32 (colF 1) 0) 46)
  have b3 := BoxN.new W1 46 (parRow 32 (colF 1) 0)
  rw [hgm] at b3
  have hI2 := hI1.trans (Ins.alloc W1 (.cells (parRow 32 (colF 1) 0) 46) hI1.b.size)
  have Hgm := Lib.hid hgm
  clear hgm b1 hI1
  gi_wp2_with fail
  generalize W1.alloc (.cells (parRow 32 (colF 1) 0) 46) = W2 at b2 b3 hI2 ⊢
  obtain ⟨gm, hgm⟩ : ∃ gm, g + 1 = gm := ⟨_, rfl⟩
  rw [hgm] at b3 ⊢
  have hgg : g ≠ gm := by omega
  have hwg : W.heap.size ≤ gm := by omega
  have hgA : gm ≠ bA := by omega
  clear hgm hzm
  gi_loopw [8] (fun i wr => ∃ k : Nat, k ≤ 32 ∧ i = .int .i64 k ∧ BoxN wr g 49 tab ∧ BoxN wr gm 46 (parRow 32 (colF 1) k) ∧ Ins W.heap.size W wr)
    (fun i _ => 32 - (intOf i).toNat)
  case atStart => exact ⟨0, by omega, rfl, b2, b3, hI2⟩
  case round =>
    clear b2 b3 hI2
    obtain ⟨k, hk, rfl, b2, b3, hI2⟩ := hrel
    by_cases hlt : k < 32
    · have hd : decide ((k : Int) < 32) = true := by simp; omega
      obtain ⟨p, hp⟩ : ∃ p : BitVec 32, 1#32 <<< k = p := ⟨_, rfl⟩
      have hpk : (2 : Int) ^ k % 4294967296 = (p.toNat : Int) := by
        rw [← hp, BitVec.toNat_shiftLeft]
        have : (1#32).toNat <<< k = 2 ^ k := by rw [Nat.shiftLeft_eq]; simp
        rw [this]; simp
      have hcol : Hid (colF 1 k = by8 p 0#8) := by
        unfold Hid colF by8; rw [hp]; simp
      have HN : CallsIn Fence.wide (n - 1) Try.prog 21 #[.pointer (some ⟨g, 0, none⟩), U32 p, U8 0#8] wr _ := callsIn_wide.2 (next_any g 49 p 0#8 wr b2)
      rw [← hcol.out, show U8 0#8 = .int .u8 0 from rfl] at HN
      replace HN := Lib.hid HN
      have c1 := b3.cell k
      rw [parRow_get 32 _ k k hlt, if_neg (Nat.lt_irrefl k)] at c1
      have f1 := b3.frozen k
      clear hp
      gi_wp2_with fail
      refine ⟨trivial, ?_⟩
      (with_reducible refine HN.out.mono ?_); rintro e w' ⟨rfl, rfl⟩
      gi_wp2_with fail
      go_roundw
      case rel => exact ⟨k + 1, by omega, by go_num, b2.far hgg _, by rw [← parRow_set 32 (colF 1) k hlt]; exact b3.set1 k _, hI2.trans (Ins.setCell hwg _)⟩
      case measure => simp [intOf]; omega
    · obtain rfl : k = 32 := by omega
      rw [parRow_full] at b3
      change BoxN wr gm 46 (matRow (matOf 1)) at b3
      have cn := (hI2.b.cell (p := ⟨Bn, 0, none⟩) hBn.lt).trans (hBn.cell 0)
      simp at cn
      have hj0 := HJ.out _ _ _ H0.out hI2
      rw [show ((32 : Nat) : Int) = 32 from rfl]
      gi_wp2_with fail
      clear cn
      gi_loopw [6] (fun i wz => ∃ (f c q : Nat) (pre : List Nat), q < 2 ^ f ∧ q ≤ 1048576 ∧ i = .int .i64 q ∧ J pre wz ∧ pre ++ bitsL f q c = bitsL 21 m 1 ∧ BoxN wz gm 46 (matRow (matOf c)))
        (fun i _ => (intOf i).toNat)
      case atStart => exact ⟨21, 1, m, [], by omega, hm, rfl, hj0, rfl, b3⟩
      case round =>
        rename_i wy _ _ _ _ _
        clear hj0 b3 b2 hI2
        obtain ⟨f, c, q, pre, hqf, hq, rfl, hj, hpre, bm⟩ := hrel
        by_cases hq0 : q = 0
        · subst hq0
          rw [bitsL_zero, List.append_nil] at hpre
          have hj' : Hid (J (bitsL 21 m 1) wr) := by unfold Hid; rw [← hpre]; exact hj
          clear hpre
          gi_wp2_with fail
          go_end0
          exact ⟨⟨_, rfl⟩, hj'.out⟩
        · obtain ⟨f, rfl⟩ : ∃ f', f = f' + 1 := ⟨f - 1, by
            have : f ≠ 0 := by rintro rfl; omega
            omega⟩
          have hd : decide ((0 : Int) < q) = true := by simp; omega
          have hand := and1_i64 q hq
          rcases Nat.mod_two_eq_zero_or_one q with h2 | h2
          · rw [bitsL_even hq0 h2] at hpre
            rw [h2] at hand
            have Hpre := Lib.hid hpre
            have H2 := Lib.hid h2
            clear hpre h2
            gi_wp2_with fail
            refine ⟨(fun f h => by cases h), ?_⟩
            have hM : Hid (matRow (sq (matOf c)) = matRow (matOf (2 * c))) := by unfold Hid; rw [sq_of]
            have HQ := (callsIn_wide (n := n - 1)).2 (squared_any gm 46 (matOf c) (matOf_len c) wr bm)
            rw [hM.out] at HQ
            have hso : (matRow (matOf c)).size = (matRow (matOf (2 * c))).size := by simp [matRow, matOf_len]
            have hs32 : (matRow (matOf (2 * c))).size = 32 := by simp [matRow, matOf_len]
            have ho : (matRow (matOf (2 * c))).all (·.oneCell') = true := by
              simp only [matRow, List.all_toArray, List.all_eq_true, List.mem_map]
              rintro v ⟨i, _, rfl⟩; rfl
            have hbm2 : Hid (∀ W, BoxN W gm 46 (matRow (matOf c)) → BoxN (W.setRow gm (matRow (matOf (2 * c)))) gm 46 (matRow (matOf (2 * c)))) := fun W h => h.setRow _
            have hin2 : Hid (∀ V, BoxN V gm 46 (matRow (matOf c)) → Ins W.heap.size V (V.setRow gm (matRow (matOf (2 * c))))) := fun V h => Ins.setRow h hwg _
            obtain ⟨M2, hM2⟩ : ∃ M2, matRow (matOf (2 * c)) = M2 := ⟨_, rfl⟩
            rw [hM2] at HQ hso hs32 ho hbm2 hin2
            have HM2 := Lib.hid hM2
            clear hM2 hM
            replace HQ := Lib.hid HQ
            gi_wp2_with fail
            refine ⟨trivial, ?_⟩
            (with_reducible refine HQ.out.mono ?_); rintro e w5 ⟨rfl, hb5⟩
            have bm5 := bm.keep hb5
            have hst := run_storeRow (P := Try.prog) bm5 hso ho
            have hj5 := Lib.hid (HJ.out _ _ _ hj ((Ins.below hb5 (Nat.le_of_lt (Nat.lt_of_le_of_lt hwg bm.lt))).trans (hin2.out w5 bm5)))
            have bm6 : Hid (BoxN (w5.setRow gm M2) gm 46 (matRow (matOf (2 * c)))) := by unfold Hid; rw [HM2.out]; exact hbm2.out w5 bm5
            clear HQ hbm2 hin2 hso ho bm
            gi_wp2_with fail
            go_roundw
            case rel => exact ⟨f, 2 * c, q / 2, pre, by omega, by omega, by go_num, hj5.out, by rw [← Hpre.out], bm6.out⟩
            case measure => simp [intOf]; omega
          · rw [bitsL_odd h2] at hpre
            rw [h2] at hand
            have Hpre := Lib.hid hpre
            have H2 := Lib.hid h2
            clear hpre h2
            obtain ⟨fn, tmps, assign, body, hyy, hR⟩ := HY.out pre c wr hj ⟨bitsL f (q / 2) (2 * c), by rw [← Hpre.out]; simp⟩
            have him : (Try.prog.info? 46).map (·.size) = some (matRow (matOf c)).size := by rw [info_mat]; simp [matRow, matOf_len]
            unfold encM at hyy
            gi_wp2_with (refine wpListIn_load_rowG (by rfl) 46 _ rfl gm rfl 46 (matRow (matOf c)) _ bm Try.underlying46 rfl him ?_)
            refine hR.mono ?_
            rintro e W3 ⟨rfl, hj3, hk3⟩
            have bm3 : BoxN W3 gm 46 (matRow (matOf c)) := hk3.same _ _ _ hgA bm
            clear hj bm hk3 hyy him
            have hj := hj3
            have bm := bm3
            clear hj3 bm3
            have hM : Hid (matRow (sq (matOf c)) = matRow (matOf (2 * c))) := by unfold Hid; rw [sq_of]
            have HQ := (callsIn_wide (n := n - 1)).2 (squared_any gm 46 (matOf c) (matOf_len c) W3 bm)
            rw [hM.out] at HQ
            have hso : (matRow (matOf c)).size = (matRow (matOf (2 * c))).size := by simp [matRow, matOf_len]
            have hs32 : (matRow (matOf (2 * c))).size = 32 := by simp [matRow, matOf_len]
            have ho : (matRow (matOf (2 * c))).all (·.oneCell') = true := by
              simp only [matRow, List.all_toArray, List.all_eq_true, List.mem_map]
              rintro v ⟨i, _, rfl⟩; rfl
            have hbm2 : Hid (∀ W, BoxN W gm 46 (matRow (matOf c)) → BoxN (W.setRow gm (matRow (matOf (2 * c)))) gm 46 (matRow (matOf (2 * c)))) := fun W h => h.setRow _
            have hin2 : Hid (∀ V, BoxN V gm 46 (matRow (matOf c)) → Ins W.heap.size V (V.setRow gm (matRow (matOf (2 * c))))) := fun V h => Ins.setRow h hwg _
            obtain ⟨M2, hM2⟩ : ∃ M2, matRow (matOf (2 * c)) = M2 := ⟨_, rfl⟩
            rw [hM2] at HQ hso hs32 ho hbm2 hin2
            have HM2 := Lib.hid hM2
            clear hM2 hM
            replace HQ := Lib.hid HQ
            gi_wp2_with fail
            refine ⟨trivial, ?_⟩
            (with_reducible refine HQ.out.mono ?_); rintro e w5 ⟨rfl, hb5⟩
            have bm5 := bm.keep hb5
            have hst := run_storeRow (P := Try.prog) bm5 hso ho
            have hj5 := Lib.hid (HJ.out _ _ _ hj ((Ins.below hb5 (Nat.le_of_lt (Nat.lt_of_le_of_lt hwg bm.lt))).trans (hin2.out w5 bm5)))
            have bm6 : Hid (BoxN (w5.setRow gm M2) gm 46 (matRow (matOf (2 * c)))) := by unfold Hid; rw [HM2.out]; exact hbm2.out w5 bm5
            clear HQ hbm2 hin2 hso ho bm
            gi_wp2_with fail
            go_roundw
            case rel => exact ⟨f, 2 * c, q / 2, pre ++ [c], by omega, by omega, by go_num, hj5.out, by rw [← Hpre.out]; simp, bm6.out⟩
            case measure => simp [intOf]; omega

theorem powers_hands (Bn bA m : Nat) (hm : m ≤ 1048576) (n : Nat) (hn : 1 ≤ n) (w : World) (hA : bA < w.heap.size) (hBn : BoxN w Bn 3 #[.int .i64 m]) :
    Hands Fence.wide n Try.prog 22 #[.pointer (some ⟨Bn, 0, none⟩)] encM (KpX bA) (bitsL 21 m 1) w := fun l J W hW hJ hY h0 =>
  powers1_in n hn l Bn bA m hm J W hJ hY (Nat.lt_of_lt_of_le hA hW.size) (hBn.keep hW) h0

theorem powers_any (m : Int) (w : World) :
    Calls Try.prog 18 #[.int .i64 m] w fun e w' => e = .returned (.func (.func 22) #[] #[.pointer (some ⟨w.heap.size, 0, none⟩)]) ∧ w' = w.alloc (.cells #[.int .i64 m] 3) := by
  go_enter Try.func18, Try.ntmps18
  go_wp2
  go_ret
  exact ⟨rfl, rfl⟩
end Go.Proofs.Ytjlnaihlndmlfab
