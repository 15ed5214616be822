/- Merged texts: CPts. -/
import Derived.Test.YtbncfknjgldcbaaGreatM8
import Derived.Test.YtbncfknjgldcbaaGreatM9
import Derived.Test.YtbncfknjgldcbaaGreatM10
import Derived.Test.YtbncfknjgldcbaaGreatM11
import Derived.Test.YtbncfknjgldcbaaGreatM3
/- calculus.points: its function value hands on the ticks around the given times, each once. -/
namespace Go.Proofs.YtbncfknjgldcbaaGreat
open Go.RowKit Go.Joins Go.Shelf Go.Sort Num
attribute [local go_sem] Oper.semAt_some

/-- A number rounded down and up. -/
def flP (p : Pt) : Int := p.q.num / p.q.den
def ceP (p : Pt) : Int := -(-p.q.num / p.q.den)
theorem floor_p (p : Pt) (w : World) : Calls Tryz.prog 109 #[.agg #[.int .i64 p.q.num, .int .i64 p.q.den]] w fun e w' => e = .returned (.int .i64 (flP p)) ∧ Below w.heap.size w w' := by
  have h := fit_bd p.h
  have := floor_any p.q.num p.q.den w (by omega) (by omega) (by omega) (by omega)
  unfold floorN at this
  rwa [fit_vld p.h, if_pos rfl] at this
theorem ceil_p (p : Pt) (w : World) : Calls Tryz.prog 110 #[.agg #[.int .i64 p.q.num, .int .i64 p.q.den]] w fun e w' => e = .returned (.int .i64 (ceP p)) ∧ Below w.heap.size w w' := by
  have h := fit_bd p.h
  have := ceil_any p.q.num p.q.den w (by omega) (by omega) (by omega) (by omega)
  unfold ceilN at this
  rwa [fit_vld p.h, if_pos rfl] at this
def flatT (ts : List Pt) : List Int := ts.flatMap fun p => [flP p, ceP p]
theorem flatT_snoc (ts : List Pt) (p : Pt) : flatT (ts ++ [p]) = flatT ts ++ [flP p, ceP p] := by simp [flatT]
theorem flatT_len (ts : List Pt) : (flatT ts).length = 2 * ts.length := by
  induction ts with
  | nil => rfl
  | cons p ts ih =>
    have : flatT (p :: ts) = [flP p, ceP p] ++ flatT ts := rfl
    rw [this, List.length_append, ih]
    simp; omega
def ticksL (ts : List Pt) : List Int := Lib.compact ((0 :: flatT ts).mergeSort fun x y => decide (x ≤ y))
theorem upTo_mem (d : Array Int) : ∀ m, m ≤ d.size → ∀ z, z ∈ Lib.compactUpTo d m ↔ z ∈ d.toList.take m
  | 0, _, z => by simp [Lib.compactUpTo]
  | m + 1, hm, z => by
    have ih := upTo_mem d m (by omega) z
    have hg : d.toList[m]? = some d[m]! := by
      rw [Array.getElem?_toList, Array.getElem?_eq_getElem (by omega), getElem!_pos d m (by omega)]
    rw [Lib.compactUpTo_succ, take_succ' hg, List.mem_append, List.mem_append, ih]
    by_cases h : Lib.keeps d m = true
    · simp [h]
    · simp only [h, Bool.false_eq_true, if_false, List.not_mem_nil, or_false, List.mem_singleton]
      constructor
      · exact Or.inl
      · rintro (k | rfl)
        · exact k
        · unfold Lib.keeps at h
          simp only [decide_eq_true_eq, not_or, ne_eq, Decidable.not_not] at h
          obtain ⟨h0, h1⟩ := h
          rw [h1, List.mem_iff_getElem?]
          refine ⟨m - 1, ?_⟩
          rw [List.getElem?_take, if_pos (by omega), Array.getElem?_toList, Array.getElem?_eq_getElem (by omega), getElem!_pos d (m - 1) (by omega)]
theorem compact_mem (zs : List Int) (z : Int) : z ∈ Lib.compact zs ↔ z ∈ zs := by
  unfold Lib.compact
  rw [upTo_mem zs.toArray zs.length (by simp)]
  simp
theorem upTo_len (d : Array Int) (m : Nat) : (Lib.compactUpTo d m).length ≤ m := by
  unfold Lib.compactUpTo
  rw [List.length_map]
  exact Nat.le_trans (List.length_filter_le _ _) (by simp)
theorem compact_len (zs : List Int) : (Lib.compact zs).length ≤ zs.length := upTo_len _ _
theorem ticks_mem (ts : List Pt) (z : Int) : z ∈ ticksL ts ↔ z = 0 ∨ ∃ p ∈ ts, z = flP p ∨ z = ceP p := by
  unfold ticksL
  rw [compact_mem, List.mem_mergeSort, List.mem_cons]
  unfold flatT
  simp only [List.mem_flatMap, List.mem_cons, List.not_mem_nil, or_false]
theorem ticks_len (ts : List Pt) : (ticksL ts).length ≤ 2 * ts.length + 1 := by
  have h := compact_len ((0 :: flatT ts).mergeSort fun x y => decide (x ≤ y))
  rw [List.length_mergeSort, List.length_cons, flatT_len] at h
  exact h
theorem below_gb {W W' : World} (h : Below W.heap.size W W') : W.grownBy W' none := ⟨h.os, h.tape, h.output, h.size, fun k hk _ => h.block k hk⟩

theorem intsOf_get (d : List Int) (t : Nat) (ht : t < d.length) : (intsOf d)[t]? = some (.int .i64 d.toArray[t]!) := by
  unfold intsOf
  rw [List.getElem?_map, List.getElem?_eq_getElem ht, getElem!_pos d.toArray t (by simpa using ht)]
  simp
theorem own_put {base : Nat} {w : World} {g cap m : Nat} {c d : List Int} {os : Array Obj} (h : w.ownsRow base 3 1 (.slice (some ⟨g, 0, none⟩) c.length cap) c.length (intsOf c)) (hl : d.length = c.length) :
    (grow (putRow (Value.int .i64) (Sort.ahead w m) g 0 d.toArray) os).ownsRow base 3 1 (.slice (some ⟨g, 0, none⟩) d.length cap) d.length (intsOf d) := by
  rcases h.2 with ⟨e, _⟩ | ⟨g', cap', cur, e, hb, hg, hnc, hcm, hcs, htake⟩
  · cases e
  · simp only [Value.slice.injEq, Option.some.injEq, Addr.mk.injEq, and_true, true_and] at e
    obtain ⟨rfl, rfl⟩ := e
    have hgl : g < w.heap.size := (Array.getElem?_eq_some_iff.1 hg).1
    refine ⟨by simp [intsOf], .inr ⟨g, cap, putCells (Value.int .i64) 0 d.toArray cur, rfl, hb, ?_, by omega, hcm, by simpa [putCells] using hcs, ?_⟩⟩
    · simp only [putRow, mapBlock, Sort.ahead, grow]
      rw [Array.getElem?_append_left (by simp; omega), Array.getElem?_modify, if_pos rfl, hg]
      rfl
    · apply List.ext_getElem?
      intro t
      rw [List.getElem?_take]
      by_cases ht : t < d.length
      · rw [if_pos (by omega), intsOf_get d t ht, Array.getElem?_toList]
        have hc : t < cur.size := by omega
        simp [putCells, Array.getElem?_mapIdx, Array.getElem?_eq_getElem hc, ht]
      · rw [if_neg (by omega), List.getElem?_eq_none (by simp [intsOf]; omega)]
theorem below_put {base : Nat} {w : World} {g m : Nat} {d : Array Int} {os : Array Obj} (hg : base ≤ g) (hgw : g < w.heap.size) : Below base w (grow (putRow (Value.int .i64) (Sort.ahead w m) g 0 d) os) := by
  refine ⟨rfl, rfl, rfl, by simp only [size_grow, putRow, mapBlock, Sort.ahead, Array.size_modify]; omega, fun k hk => ?_⟩
  simp only [putRow, mapBlock, Sort.ahead, grow]
  rw [Array.getElem?_append_left (by simp; omega), Array.getElem?_modify, if_neg (by omega)]
theorem holds_own {base : Nat} {w : World} {g cap : Nat} {c : List Int} (h : w.ownsRow base 3 1 (.slice (some ⟨g, 0, none⟩) c.length cap) c.length (intsOf c)) : Holds (Value.int .i64) w g 0 c.toArray := by
  intro j hj
  have hj' : j < c.length := by simpa using hj
  refine ⟨?_, h.frozenAt _⟩
  rw [Nat.zero_add, h.cellAt j (by omega), intsOf_get c j hj']

/-- A row of numbers of one's own, sorted and compacted. -/
theorem sort_own (base g cap : Nat) (zs : List Int) (hl : zs.length ≤ 4194304) (w : World) (ho : w.ownsRow base 3 1 (.slice (some ⟨g, 0, none⟩) zs.length cap) zs.length (intsOf zs)) :
    Calls Tryz.prog 111 #[.slice (some ⟨g, 0, none⟩) zs.length cap] w fun e w' => e = .returned (.tuple #[]) ∧ w'.ownsRow base 3 1 (.slice (some ⟨g, 0, none⟩) zs.length cap) zs.length (intsOf (zs.mergeSort fun x y => decide (x ≤ y))) ∧ Below base w w' := by
  obtain ⟨hb, hgl⟩ := own_lt ho
  have hS := Any.slices_Sort_int Tryz.sortI g 0 cap zs w (holds_own ho) hgl (by omega)
  change Calls Tryz.prog 111 _ _ _ at hS
  refine hS.mono ?_
  rintro e w' ⟨he, n, os, rfl⟩
  have h := own_put (d := zs.mergeSort fun x y => decide (x ≤ y)) (m := n) (os := os) ho (List.length_mergeSort _)
  rw [List.length_mergeSort] at h
  exact ⟨he, h, below_put hb hgl⟩
theorem compact_own' (base g cap : Nat) (zs : List Int) (hl : zs.length ≤ 4194304) (w : World) (ho : w.ownsRow base 3 1 (.slice (some ⟨g, 0, none⟩) zs.length cap) zs.length (intsOf zs)) :
    Calls Tryz.prog 112 #[.slice (some ⟨g, 0, none⟩) zs.length cap] w fun e w' => e = .returned (.slice (some ⟨g, 0, none⟩) (Lib.compact zs).length cap) ∧ (∃ cs, w'.heap[g]? = some (.cells cs 3 (0, 0))) ∧ (∀ (j : Nat) (z : Int), (Lib.compact zs)[j]? = some z → w'.cell? ⟨g, j, none⟩ = some (.int .i64 z)) ∧ Below base w w' := by
  obtain ⟨hb, hgl⟩ := own_lt ho
  have hcap : zs.length ≤ cap := by
    rcases ho.2 with ⟨e, _⟩ | ⟨g', cap', cur, e, _, _, hnc, _⟩
    · cases e
    · simp only [Value.slice.injEq] at e; omega
  have hS := Any.slices_Compact_int Tryz.compactI g 0 cap zs w (holds_own ho) (by omega) hcap
  change Calls Tryz.prog 112 _ _ _ at hS
  refine hS.mono ?_
  rintro e w' ⟨he, q, rfl⟩
  have hcl := compact_len zs
  have h := own_put (d := Lib.compact zs ++ List.replicate (zs.length - (Lib.compact zs).length) 0) (m := q) (os := #[]) ho (by simp; omega)
  rw [grow_empty] at h
  have hbl := below_put (base := base) (w := w) (m := q) (d := (Lib.compact zs ++ List.replicate (zs.length - (Lib.compact zs).length) 0).toArray) (os := #[]) hb hgl
  rw [grow_empty] at hbl
  refine ⟨he, ?_, fun j z hz => ?_, hbl⟩
  · rcases h.2 with ⟨e, _⟩ | ⟨g', cap', cur, e, _, hg, _⟩
    · cases e
    · simp only [Value.slice.injEq, Option.some.injEq, Addr.mk.injEq, and_true, true_and] at e
      obtain ⟨rfl, -⟩ := e
      exact ⟨cur, hg⟩
  · have hj := (List.getElem?_eq_some_iff.1 hz).1
    rw [h.cellAt j (by simp; omega)]
    unfold intsOf
    rw [List.getElem?_map, List.getElem?_append_left hj, hz]
    rfl

set_option maxRecDepth 100000 in
set_option maxHeartbeats 8000000 in
theorem points1_in {α : Type} (en : α → Int) (TA : List α) (n : Nat) (hn : 1 ≤ n) (l Bt n₀ bL : Nat) (ts : List Pt) (hc : ts.length ≤ 1048576) (hTA : TA.map en = ticksL ts) (J Jx : List α → World → Prop)
    (hJ : ∀ W1 W2, J [] W1 → Below W1.heap.size W1 W2 → J [] W2)
    (hY : ∀ pre x W, J pre W → pre.length < TA.length → YieldAt Fence.wide (n - 1) Tryz.prog l #[.agg #[.int .i64 (en x), .int .i64 1]] W fun e W' =>
      (e = .returned (.bool true) ∧ J (pre ++ [x]) W' ∧ Kp2 n₀ bL W W') ∨ (e = .returned (.bool false) ∧ Jx (pre ++ [x]) W'))
    (W : World) (hg : GoodW bL W) (hl : bL < W.heap.size) (A : Option Addr) (capA : Nat) (hB : BoxN W Bt 44 #[.slice A ts.length capA]) (hP : isP A ts W) (h0 : J [] W) :
    CallsIn Fence.wide n Tryz.prog 108 #[.func (.yield l) #[] #[], .pointer (some ⟨Bt, 0, none⟩)] W fun e W' => (∃ v, e = .returned v) ∧
      ((∃ ys, ys = TA ∧ J ys W') ∨ (∃ pre, pre <+: TA ∧ Jx pre W')) := by
  obtain ⟨i0, hi, hz0, hz1, hz2⟩ := info_parts infoI
  have HF : Hid (∀ (p : Pt) (W : World), _) := fun p W => floor_p p W
  have HC : Hid (∀ (p : Pt) (W : World), _) := fun p W => ceil_p p W
  have hro : Fence.wide.round = none := rfl
  obtain ⟨T, hT⟩ : ∃ T, ticksL ts = T := ⟨_, rfl⟩
  rw [hT] at hTA
  have hTl : T.length = TA.length := by rw [← hTA, List.length_map]
  replace hT := Lib.hid hT
  replace hTA := Lib.hid hTA
  refine callsIn_of_wp Tryz.func108 rfl trivial ?_ hro
  simp only [Tryz.ntmps108, List.size_toArray, List.length_cons, List.length_nil, Nat.reduceAdd, Nat.reduceSub, Array.replicate_succ, Array.replicate_zero, List.push_toArray, List.append_toArray, List.nil_append, List.cons_append]
  have cA : W.cell? ⟨Bt, 0, none⟩ = some (.slice A ts.length capA) := hB.cell 0
  have hBl := hB.lt
  have hP := Lib.hid hP
  have hJ := Lib.hid hJ
  have h0 := Lib.hid h0
  gi_wp2
  gi_loopw [3, 11] (fun v i wr => ∃ (k : Nat) (g c' : Nat), k ≤ ts.length ∧ i = .int .i64 ↑k ∧ v = .slice (some ⟨g, 0, none⟩) (2 * k + 1) c' ∧ wr.ownsRow W.heap.size 3 1 (.slice (some ⟨g, 0, none⟩) (2 * k + 1) c') (2 * k + 1) (intsOf (0 :: flatT (ts.take k))) ∧ Below W.heap.size W wr)
    (fun _ i _ => ts.length - (intOf i).toNat)
  case atStart => exact ⟨0, W.heap.size, 1, Nat.zero_le _, rfl, rfl, by simpa [intsOf, flatT] using World.ownsRow_lit (base := W.heap.size) (e := 3) (size := 1) W #[.int .i64 0] 1 (Nat.le_refl _) (by unfold maxLen; omega) rfl, (Below.refl _ _).alloc (Nat.le_refl _) _⟩
  case round =>
    obtain ⟨k, g, c', hk, rfl, rfl, hown, hBr⟩ := hrel
    by_cases hlt : k < ts.length
    · have hx : ts[k]? = some ts[k] := List.getElem?_eq_getElem hlt
      obtain ⟨x, hxe⟩ : ∃ x, ts[k] = x := ⟨_, rfl⟩
      rw [hxe] at hx
      have hts := Lib.hid (take_succ' hx)
      obtain ⟨b, rfl, hb, hr⟩ := hP.out (by intro h; subst h; simp at hlt)
      obtain ⟨c0, c1⟩ := (hr.below hBr hb) k x hx
      simp only [Nat.zero_add] at c0 c1
      have hbz := Nat.lt_of_lt_of_le hb hBr.size
      have hfl : Hid (intsOf (0 :: flatT (ts.take (k + 1))) = intsOf (0 :: flatT (ts.take k)) ++ [.int .i64 (flP x), .int .i64 (ceP x)]) := by unfold Hid; rw [hts.out, flatT_snoc]; simp [intsOf]
      have HFx := Lib.hid (HF.out x)
      have HCx := Lib.hid (HC.out x)
      have Hown := Lib.hid hown
      have hone : Hid (∀ u ∈ [Value.int .i64 (flP x), .int .i64 (ceP x)], u.oneCell' = true) := by
        intro u hu
        simp only [List.mem_cons, List.not_mem_nil, or_false] at hu
        rcases hu with rfl | rfl <;> rfl
      have hm1 := Lib.hid (show 2 * k + 1 + 2 ≤ maxLen by unfold maxLen; omega)
      have hy1 := Lib.hid (show (2 * k + 1 + 2) * 8 ≤ 140737488355328 by omega)
      have hwz := hBr.size
      have HBr := Lib.hid hBr
      clear hx hxe hr hown hBr
      gi_wp2_with fail
      refine wpIn_wide.2 ?_
      have hB1 := HBr.out.alloc hwz (.cells #[.int .i64 x.q.num, .int .i64 x.q.den] 25)
      have HB1 := Lib.hid hB1
      clear hB1
      go_region_law (first
        | (refine step_append_lies _ rfl (.tmp 15) (.tmp 20) 66 rfl W.heap.size 3 i0 _ 1 8 Tryz.underlying66 hi hz0 hz1 hz2 rfl (by decide) (.slice (some ⟨g, 0, none⟩) (2 * k + 1) c') (2 * k + 1) (intsOf (0 :: flatT (ts.take k))) ?_ ((own_below (own_below (World.ownsRow.drew (Hown.out.alloc _)) hbf) hbc).alloc _) ⟨v2.heap.size, 0, none⟩ 2 2 [.int .i64 (flP x), .int .i64 (ceP x)] ?_ rfl (World.news_of_block (heap_alloc_new v2 _)) hone.out (by decide) hm1.out hy1.out ?_ _ rfl ?_; (simp [Act.eval] <;> fail); (simp [Act.eval] <;> fail); (first | omega | (simp; omega)); intro g5 cap5 w5 hown5 hgrow5 hat5 hlt5)
        | (refine step_append_lies _ rfl (.tmp 15) (.tmp 20) 66 rfl W.heap.size 3 i0 _ 1 8 Tryz.underlying66 hi hz0 hz1 hz2 rfl (by decide) (.slice (some ⟨g, 0, none⟩) (2 * k + 1) c') (2 * k + 1) (intsOf (0 :: flatT (ts.take k))) ?_ ((own_below (own_below (World.ownsRow.drew (Hown.out.alloc _)) hbc) hbf).alloc _) ⟨v1.heap.size, 0, none⟩ 2 2 [.int .i64 (flP x), .int .i64 (ceP x)] ?_ rfl (World.news_of_block (heap_alloc_new v1 _)) hone.out (by decide) hm1.out hy1.out ?_ _ rfl ?_; (simp [Act.eval] <;> fail); (simp [Act.eval] <;> fail); (first | omega | (simp; omega)); intro g5 cap5 w5 hown5 hgrow5 hat5 hlt5)
        | (go_simp; go_at_call 109; (with_reducible refine (HFx.out _).mono ?_); rintro e v1 ⟨rfl, hbf⟩; obtain ⟨hcf, hff⟩ := bcell hbf; have hzf := hbf.size; (try simp only [World.size_alloc, World.size_drew] at hcf); (try simp only [World.size_alloc, World.size_drew] at hff); (try simp only [World.size_alloc, World.size_drew] at hzf); (try have hkf : wr.heap.size < v1.heap.size := by omega))
        | (go_simp; go_at_call 110; (with_reducible refine (HCx.out _).mono ?_); rintro e v2 ⟨rfl, hbc⟩; obtain ⟨hcc, hfc⟩ := bcell hbc; have hzc := hbc.size; (try simp only [World.size_alloc, World.size_drew] at hcc); (try simp only [World.size_alloc, World.size_drew] at hfc); (try simp only [World.size_alloc, World.size_drew] at hzc); (try have hkc : wr.heap.size < v2.heap.size := by omega)))
      all_goals
        have hB5 := Lib.hid (Below.grown (by (repeat' (first | (with_reducible exact HB1.out) | (with_reducible refine Below.drew ?_) | (with_reducible refine Below.alloc ?_ ?_ _) | (with_reducible refine Below.trans ?_ (hbc.mono ?_)) | (with_reducible refine Below.trans ?_ (hbf.mono ?_)) | omega | (simp; done) | (simp; omega)))) hgrow5 (by first | omega | (simp; omega)) (fun j e => own_block_le Hown.out e) : Below W.heap.size W w5)
        have Hown5 := Lib.hid hown5
        clear hown5 hgrow5 hat5
        gi_wp2
        go_roundw
        case rel => exact ⟨k + 1, g5, cap5, hlt, by go_num, rfl, by rw [hfl.out]; exact Hown5.out, hB5.out⟩
        case measure => simp [intOf]; omega
    · obtain rfl : k = ts.length := by omega
      rw [List.take_length] at hown
      have hzl : (0 :: flatT ts).length = 2 * ts.length + 1 := by rw [List.length_cons, flatT_len]
      have hS := sort_own W.heap.size g c' (0 :: flatT ts) (by rw [hzl]; omega) wr (by rw [hzl]; exact hown)
      rw [hzl] at hS
      obtain ⟨hgb, -⟩ := own_lt hown
      replace hS := Lib.hid hS
      have HBr := Lib.hid hBr
      clear hown hBr cA
      gi_wp2_with fail
      refine ⟨trivial, ?_⟩
      (with_reducible refine (callsIn_wide.2 hS.out).mono ?_); rintro _ w6 ⟨rfl, hown6, hb6⟩
      have hms : ((0 :: flatT ts).mergeSort fun x y => decide (x ≤ y)).length = 2 * ts.length + 1 := by rw [List.length_mergeSort, hzl]
      have hC := compact_own' W.heap.size g c' ((0 :: flatT ts).mergeSort fun x y => decide (x ≤ y)) (by rw [hms]; omega) w6 (by rw [hms]; exact hown6)
      rw [hms] at hC
      change Calls _ _ _ _ (fun e w' => e = .returned (.slice (some ⟨g, 0, none⟩) (ticksL ts).length c') ∧ (∃ cs, w'.heap[g]? = some (.cells cs 3 (0, 0))) ∧ (∀ (j : Nat) (z : Int), (ticksL ts)[j]? = some z → w'.cell? ⟨g, j, none⟩ = some (.int .i64 z)) ∧ Below W.heap.size w6 w') at hC
      have htl := ticks_len ts
      rw [hT.out] at hC htl
      replace hC := Lib.hid hC
      have hB6 := Lib.hid (HBr.out.trans hb6)
      clear hown6 hb6 hS hzl hms
      gi_wp2_with fail
      refine ⟨trivial, ?_⟩
      (with_reducible refine (callsIn_wide.2 hC.out).mono ?_); rintro _ w7 ⟨rfl, ⟨cs7, hcs⟩, hcell, hb7⟩
      have hB7 := hB6.out.trans hb7
      have hl7 : bL < w7.heap.size := Nat.lt_of_lt_of_le hl hB7.size
      have hg7 := GoodW.grow hB7 hl hg
      have hfg : FrW bL w7 g := ⟨⟨cs7, 3, hcs⟩, by omega, fun v hv e => by
        rw [cell_same (hB7.block bL hl) 0] at hv
        have := hg v hv g e
        omega⟩
      have hJ7 := hJ.out _ _ h0.out hB7
      have Hcell := Lib.hid hcell
      clear hC hcell hb7 hB6 HBr hcs
      gi_wp2_with fail
      gi_loopw [28] (fun i w2 => ∃ j : Nat, j ≤ T.length ∧ i = .int .i64 ↑j ∧ J (TA.take j) w2 ∧ bL < w2.heap.size ∧ GoodW bL w2 ∧ ∀ i, FrW bL w7 i → w2.heap[i]? = w7.heap[i]? ∧ FrW bL w2 i)
        (fun i _ => T.length - (intOf i).toNat)
      case atStart => exact ⟨0, Nat.zero_le _, rfl, by simpa using hJ7, hl7, hg7, fun j hj => ⟨rfl, hj⟩⟩
      case round =>
        obtain ⟨j, hj, rfl, hJ2, hl2, hg2, hf2⟩ := hrel
        by_cases hjt : j < T.length
        · have hy : TA[j]? = some (TA[j]'(by omega)) := List.getElem?_eq_getElem (by omega)
          obtain ⟨y, hye⟩ : ∃ y, TA[j]'(by omega) = y := ⟨_, rfl⟩
          rw [hye] at hy
          have d0 := (cell_same (hf2 g hfg).1 j).trans (Hcell.out j (en y) (by rw [← hTA.out, List.getElem?_map, hy]; rfl))
          have hts := Lib.hid (take_succ' hy)
          have hpre := Lib.hid (List.take_prefix (j + 1) TA)
          obtain ⟨fn, tmps, assign, body, hyy, hR⟩ := hY _ y wr hJ2 (by rw [List.length_take]; omega)
          clear hy hye
          gi_wp2
          refine hR.mono ?_
          rintro e W3 (⟨rfl, hJ3, hk3⟩ | ⟨rfl, hJx3⟩)
          · obtain ⟨hg4, hf4⟩ := hk3.2 hg2
            have hl4 : bL < W3.heap.size := Nat.lt_of_lt_of_le hl2 hk3.1.size
            gi_wp2
            go_roundw
            case rel => exact ⟨j + 1, hjt, by go_num, by rw [hts.out]; exact hJ3, hl4, hg4, fun i hi => ⟨(hf4 i (hf2 i hi).2).1.trans (hf2 i hi).1, (hf4 i (hf2 i hi).2).2⟩⟩
            case measure => simp [intOf]; omega
          · gi_wp2
            refine bodyPost_ret (results_none rfl _ _ _) rfl ?_
            exact ⟨⟨_, rfl⟩, .inr ⟨_, by rw [← hts.out]; exact hpre.out, hJx3⟩⟩
        · obtain rfl : j = T.length := by omega
          rw [hTl, List.take_length] at hJ2
          gi_wp2
          go_end0
          exact ⟨⟨_, rfl⟩, .inl ⟨_, rfl, hJ2⟩⟩

/-- calculus.points: the slice is boxed; the function value holds the box. -/
theorem points_any (A : Option Addr) (la ca : Nat) (w : World) :
    Calls Tryz.prog 73 #[.slice A la ca] w fun e w' => e = .returned (.func (.func 108) #[] #[.pointer (some ⟨w.heap.size, 0, none⟩)]) ∧ w' = w.alloc (.cells #[.slice A la ca] 44) := by
  go_enter Tryz.func73, Tryz.ntmps73
  go_wp2
  go_ret
  exact ⟨rfl, rfl⟩
/-- The function value of points hands on the ticks. -/
theorem points_stops {α : Type} (en : α → Int) (TA : List α) (n : Nat) (hn : 1 ≤ n) (Bt n₀ bL : Nat) (ts : List Pt) (hc : ts.length ≤ 1048576) (hTA : TA.map en = ticksL ts) (w : World) (hl : bL < w.heap.size) (hg : GoodW bL w) (A : Option Addr) (capA : Nat) (hB : BoxN w Bt 44 #[.slice A ts.length capA]) (hP : isP A ts w) :
    SeqStopsK Fence.wide n Tryz.prog 108 #[.pointer (some ⟨Bt, 0, none⟩)] (fun x : α => #[.agg #[.int .i64 (en x), .int .i64 1]]) (Kp2 n₀ bL) (fun ys => ys = TA) (fun pre => pre <+: TA) TA.length w := fun l J Jx W hW hJ _ hY h0 =>
  points1_in en TA n hn l Bt n₀ bL ts hc hTA J Jx (fun W1 W2 h hb => hJ [] W1 W2 none h (below_gb hb) (fun r e => by cases e)) hY W (hg.grow hW hl) (Nat.lt_of_lt_of_le hl hW.size) A capA (hB.below hW hB.lt) (cl_isP A ts w W hP hW) h0

/-- A tick that a number can hold. -/
structure Tk where
  n : Int
  lo : 0 ≤ n
  hi : n ≤ 1073741824
theorem tick_bd {p : Pt} (h0 : 0 ≤ p.q) : (0 ≤ flP p ∧ flP p ≤ 1073741824) ∧ (0 ≤ ceP p ∧ ceP p ≤ 1073741824) := by
  have hb := fit_bd p.h
  have hn : 0 ≤ p.q.num := Rat.num_nonneg.2 h0
  have hd : (0 : Int) < p.q.den := by have := p.q.den_pos; omega
  unfold flP ceP
  have h1 : 0 ≤ p.q.num / (p.q.den : Int) := Int.ediv_nonneg hn (by omega)
  have h2 : p.q.num / (p.q.den : Int) ≤ p.q.num := Int.ediv_le_self _ hn
  have h3 : -p.q.num / (p.q.den : Int) ≤ 0 := by
    have := Int.ediv_le_ediv hd (show -p.q.num ≤ 0 by omega)
    simpa using this
  have h4 : -1073741824 ≤ -p.q.num / (p.q.den : Int) := by
    rw [Int.le_ediv_iff_mul_le hd]
    have : (1073741824 : Int) * 1 ≤ 1073741824 * p.q.den := Int.mul_le_mul_of_nonneg_left (by omega) (by omega)
    omega
  exact ⟨⟨h1, by omega⟩, by omega, by omega⟩
theorem tks_of : ∀ {l : List Int}, (∀ z ∈ l, 0 ≤ z ∧ z ≤ 1073741824) → ∃ T : List Tk, T.map Tk.n = l
  | [], _ => ⟨[], rfl⟩
  | z :: l, h => by
    obtain ⟨T, hT⟩ := tks_of (l := l) fun y hy => h y (List.mem_cons_of_mem _ hy)
    obtain ⟨h1, h2⟩ := h z List.mem_cons_self
    exact ⟨⟨z, h1, h2⟩ :: T, by rw [← hT]; rfl⟩
theorem ticks_tk {ts : List Pt} (h : ∀ p ∈ ts, 0 ≤ p.q) : ∃ T : List Tk, T.map Tk.n = ticksL ts := tks_of fun z hz => by
  rcases (ticks_mem ts z).1 hz with rfl | ⟨p, hp, rfl | rfl⟩
  · exact ⟨Int.le_refl _, by decide⟩
  · exact (tick_bd (h p hp)).1
  · exact (tick_bd (h p hp)).2
end Go.Proofs.YtbncfknjgldcbaaGreat
