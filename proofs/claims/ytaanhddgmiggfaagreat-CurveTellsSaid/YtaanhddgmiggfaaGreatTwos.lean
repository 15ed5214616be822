/- curve.twos: its function value hands on every two buckets, the earlier one first. -/
import Derived.Test.YtaanhddgmiggfaaGreatSumOk
namespace Go.Proofs.YtaanhddgmiggfaaGreat
open Go.RowKit Go.Joins Go.Shelf Num
attribute [local go_sem] Oper.semAt_some

/-- Every two, the earlier one first. -/
def twosL : List Buck → List (Buck × Buck)
  | [] => []
  | x :: l => l.map (fun y => (x, y)) ++ twosL l
/-- The twos whose first is among the first k. -/
def twosTo : List Buck → Nat → List (Buck × Buck)
  | _, 0 => []
  | [], _ => []
  | x :: l, k + 1 => l.map (fun y => (x, y)) ++ twosTo l k
theorem twosTo_succ {c : List Buck} : ∀ {k : Nat} {x : Buck}, c[k]? = some x → twosTo c (k + 1) = twosTo c k ++ (c.drop (k + 1)).map (fun y => (x, y)) := by
  induction c with
  | nil => intro k x h; simp at h
  | cons z l ih =>
    intro k x h
    cases k with
    | zero => simp at h; subst h; simp [twosTo]
    | succ k =>
      simp only [List.getElem?_cons_succ] at h
      simp only [twosTo, List.drop_succ_cons]
      rw [ih h, List.append_assoc]
theorem twosTo_all (c : List Buck) : twosTo c c.length = twosL c := by
  induction c with
  | nil => rfl
  | cons x l ih => simp only [List.length_cons, twosTo, twosL, ih]
theorem twosTo_pre (c : List Buck) : ∀ k, twosTo c k <+: twosL c := by
  induction c with
  | nil => intro k; cases k <;> exact List.prefix_refl _
  | cons x l ih =>
    intro k
    cases k with
    | zero => exact List.nil_prefix
    | succ k => simp only [twosTo, twosL]; exact (List.prefix_append_right_inj _).2 (ih k)
theorem twos_pre {c : List Buck} {k : Nat} {x : Buck} (hx : c[k]? = some x) (j : Nat) : twosTo c k ++ ((c.drop (k + 1)).take j).map (fun y => (x, y)) <+: twosL c := by
  refine List.IsPrefix.trans ?_ (twosTo_pre c (k + 1))
  rw [twosTo_succ hx]
  exact (List.prefix_append_right_inj _).2 ((List.take_prefix j _).map _)

/-- The slice value of the box B and its row, with its capacity. -/
structure BoxSc (bL : Nat) (W : World) (B : Nat) (t : TypeId) (c : List Buck) : Prop where
  f : FrW bL W B
  h : ∃ A cap, BoxN W B t #[.slice A c.length cap] ∧ c.length ≤ cap ∧ (c ≠ [] → ∃ b off, A = some ⟨b, off, none⟩ ∧ FrW bL W b ∧ Row W b off c)
theorem BoxSc.keep {bL : Nat} {W W' : World} {B : Nat} {t : TypeId} {c : List Buck} (h : BoxSc bL W B t c) (k : ∀ k, FrW bL W k → W'.heap[k]? = W.heap[k]? ∧ FrW bL W' k) : BoxSc bL W' B t c := by
  obtain ⟨A, cap, h1, h2, h3⟩ := h.h
  refine ⟨(k _ h.f).2, A, cap, (k _ h.f).1.trans h1, h2, fun hc => ?_⟩
  obtain ⟨b, off, e, hf, hr⟩ := h3 hc
  exact ⟨b, off, e, (k _ hf).2, hr.same (k _ hf).1⟩
theorem BoxSc.grow {bL : Nat} {w W : World} (hb : Below w.heap.size w W) (hl : bL < w.heap.size) {B : Nat} {t : TypeId} {c : List Buck} (h : BoxSc bL w B t c) : BoxSc bL W B t c := h.keep fun k hk => ⟨hb.block k hk.lt, hk.grow hb hl⟩

set_option maxRecDepth 100000 in
set_option maxHeartbeats 4000000 in
theorem twos1_in (F : Fence) (n : Nat) (h7 : F.fn 107) (hro : F.round = none) (hn : 1 ≤ n) (l Bc n₀ bL : Nat) (c : List Buck) (hc : c.length ≤ 1048576) (J Jx : List (Buck × Buck) → World → Prop)
    (hJa : ∀ pre W o, J pre W → J pre (W.alloc o))
    (hY : ∀ pre x W, J pre W → pre.length < (twosL c).length → YieldAt F (n - 1) Tryz.prog l #[.agg x.1.cells.toArray, .agg x.2.cells.toArray] W fun e W' =>
      (e = .returned (.bool true) ∧ J (pre ++ [x]) W' ∧ Kp2 n₀ bL W W') ∨ (e = .returned (.bool false) ∧ Jx (pre ++ [x]) W'))
    (W : World) (hg : GoodW bL W) (hl : bL < W.heap.size) (hC : BoxSc bL W Bc 23 c) (h0 : J [] W) :
    CallsIn F n Tryz.prog 107 #[.func (.yield l) #[] #[], .pointer (some ⟨Bc, 0, none⟩)] W fun e W' => (∃ v, e = .returned v) ∧
      ((∃ ys, ys = twosL c ∧ J ys W') ∨ (∃ pre, pre <+: twosL c ∧ Jx pre W')) := by
  refine callsIn_of_wp Tryz.func107 rfl h7 ?_ hro
  simp only [Tryz.ntmps107, List.size_toArray, List.length_cons, List.length_nil, Nat.reduceAdd, Nat.reduceSub, Array.replicate_succ, Array.replicate_zero, List.push_toArray, List.append_toArray, List.nil_append, List.cons_append]
  obtain ⟨A, capA, hbA, hcap, hrA⟩ := hC.h
  have cA : W.cell? ⟨Bc, 0, none⟩ = some (.slice A c.length capA) := hbA.cell 0
  gi_wp2
  gi_loopw [9] (fun i wr => ∃ k : Nat, k ≤ c.length ∧ i = .int .i64 k ∧ J (twosTo c k) wr ∧ bL < wr.heap.size ∧ GoodW bL wr ∧ ∀ j, FrW bL W j → wr.heap[j]? = W.heap[j]? ∧ FrW bL wr j)
    (fun i _ => c.length - (intOf i).toNat)
  case atStart => exact ⟨0, Nat.zero_le _, rfl, by simpa [twosTo] using h0, hl, hg, fun j hj => ⟨rfl, hj⟩⟩
  case round =>
    obtain ⟨k, hk, rfl, hJs, hlr, hgr, hfr⟩ := hrel
    by_cases hlt : k < c.length
    · have hx : c[k]? = some c[k] := List.getElem?_eq_getElem hlt
      obtain ⟨x, hxe⟩ : ∃ x, c[k] = x := ⟨_, rfl⟩
      rw [hxe] at hx
      obtain ⟨ba, oa, rfl, hfa, hra⟩ := hrA (by intro h; subst h; simp at hlt)
      obtain ⟨c0, c1, c2, c3⟩ := (hra.same (hfr ba hfa).1) k x hx
      have hbC := (hfr Bc hC.f).1.trans hbA
      have lBc : Bc < wr.heap.size := BoxN.lt hbC
      have cC : wr.cell? ⟨Bc, 0, none⟩ = some (.slice (some ⟨ba, oa, none⟩) c.length capA) := BoxN.cell hbC 0
      have hsucc := Lib.hid (twosTo_succ hx)
      have hpre := Lib.hid (fun j => twos_pre hx j)
      have Hx := Lib.hid hx
      clear hx hxe hC hbC hbA
      have bX := BoxN.new wr 80 #[.int .i64 x.b.num, .int .i64 x.b.den, .int .i64 x.r.num, .int .i64 x.r.den]
      have fX := FrW.new hgr hlr #[.int .i64 x.b.num, .int .i64 x.b.den, .int .i64 x.r.num, .int .i64 x.r.den] 80
      have hJ1 := hJa _ _ (.cells #[.int .i64 x.b.num, .int .i64 x.b.den, .int .i64 x.r.num, .int .i64 x.r.den] 80) hJs
      obtain ⟨hg1, hf1⟩ := Kf.alloc hlr (.cells #[.int .i64 x.b.num, .int .i64 x.b.den, .int .i64 x.r.num, .int .i64 x.r.den] 80) hgr
      have hl1 : bL < (wr.alloc (.cells #[.int .i64 x.b.num, .int .i64 x.b.den, .int .i64 x.r.num, .int .i64 x.r.den] 80)).heap.size := by simp; omega
      have hfr1 : ∀ i, FrW bL W i → (wr.alloc (.cells #[.int .i64 x.b.num, .int .i64 x.b.den, .int .i64 x.r.num, .int .i64 x.r.den] 80)).heap[i]? = W.heap[i]? ∧ FrW bL (wr.alloc (.cells #[.int .i64 x.b.num, .int .i64 x.b.den, .int .i64 x.r.num, .int .i64 x.r.den] 80)) i := fun i hi => ⟨(hf1 i (hfr i hi).2).1.trans (hfr i hi).1, (hf1 i (hfr i hi).2).2⟩
      have hd : ∀ w', (Instr.slice 23 (.slice (some ⟨ba, oa, none⟩) c.length capA) (some (.int .i64 (↑k + 1))) none none).run Tryz.prog w' = .ok (.slice (if capA = k + 1 then some ⟨ba, oa, none⟩ else some ⟨ba, oa + (k + 1) * 4, none⟩) (c.length - (k + 1)) (capA - (k + 1))) w' := fun w' => by
        rw [run_slice_l w' 23 _ c.length capA (by kernel_rfl) .i64 (↑k + 1) (by omega) (by omega)]
        have e1 : ((k : Int) + 1).toNat = k + 1 := by omega
        have e2 : (sizeOf (Tryz.prog.elem 23)).run Tryz.prog w' = .ok 4 w' := by kernel_rfl
        rw [e1, e2]
        simp only [Result.andThen, sliced]
        by_cases h : capA = k + 1
        · simp [h]
        · simp [h, Addr.add]
      have hrB1 : c.drop (k + 1) ≠ [] → ∃ g o, (if capA = k + 1 then some ⟨ba, oa, none⟩ else some ⟨ba, oa + (k + 1) * 4, none⟩ : Option Addr) = some ⟨g, o, none⟩ ∧ FrW bL (wr.alloc (.cells #[.int .i64 x.b.num, .int .i64 x.b.den, .int .i64 x.r.num, .int .i64 x.r.den] 80)) g ∧ Row (wr.alloc (.cells #[.int .i64 x.b.num, .int .i64 x.b.den, .int .i64 x.r.num, .int .i64 x.r.den] 80)) g o (c.drop (k + 1)) := fun h => by
        have h1 : k + 1 < c.length := by
          rcases Nat.lt_or_ge (k + 1) c.length with h1 | h1
          · exact h1
          · exact absurd (List.drop_eq_nil_of_le h1) h
        refine ⟨ba, oa + (k + 1) * 4, if_neg (by omega), (hfr1 ba hfa).2, fun j y hy => ?_⟩
        rw [List.getElem?_drop] at hy
        have r := (hra.same (hfr1 ba hfa).1) (k + 1 + j) y hy
        rw [show oa + (k + 1 + j) * 4 = oa + (k + 1) * 4 + j * 4 by omega] at r
        exact r
      have hdl : c.length - (k + 1) = (c.drop (k + 1)).length := by simp
      rw [hdl] at hd
      generalize (if capA = k + 1 then some ⟨ba, oa, none⟩ else some ⟨ba, oa + (k + 1) * 4, none⟩ : Option Addr) = A17 at hd hrB1
      generalize capA - (k + 1) = C17 at hd
      have hdn : (c.drop (k + 1)).length ≤ 1048576 := by simp; omega
      generalize c.drop (k + 1) = d at hd hrB1 hsucc hpre hdn
      clear hf1 hfr hgr hJs hra hrA hdl
      gi_wp2
      clear hd c0 c1 c2 c3 cC
      generalize wr.alloc (.cells #[.int .i64 x.b.num, .int .i64 x.b.den, .int .i64 x.r.num, .int .i64 x.r.den] 80) = W1 at bX fX hJ1 hg1 hl1 hfr1 hrB1 ⊢
      generalize wr.heap.size = Bx at bX fX ⊢
      gi_loopw [19] (fun i w2 => ∃ j : Nat, j ≤ d.length ∧ i = .int .i64 j ∧ J (twosTo c k ++ (d.take j).map (fun y => (x, y))) w2 ∧ bL < w2.heap.size ∧ GoodW bL w2 ∧ ∀ i, FrW bL W1 i → w2.heap[i]? = W1.heap[i]? ∧ FrW bL w2 i)
        (fun i _ => d.length - (intOf i).toNat)
      case atStart => exact ⟨0, Nat.zero_le _, rfl, by simpa using hJ1, hl1, hg1, fun j hj => ⟨rfl, hj⟩⟩
      case round =>
        obtain ⟨j, hj, rfl, hJ2, hl2, hg2, hf2⟩ := hrel
        by_cases hjt : j < d.length
        · have hy : d[j]? = some d[j] := List.getElem?_eq_getElem hjt
          obtain ⟨y, hye⟩ : ∃ y, d[j] = y := ⟨_, rfl⟩
          rw [hye] at hy
          obtain ⟨bb, ob, rfl, hfb, hrb⟩ := hrB1 (by intro h; subst h; simp at hjt)
          obtain ⟨d0, d1, d2, d3⟩ := (hrb.same (hf2 bb hfb).1) j y hy
          have hmp : Hid ((d.take (j + 1)).map (fun y => (x, y)) = (d.take j).map (fun y => (x, y)) ++ [(x, y)]) := by unfold Hid; rw [take_succ' hy]; simp
          have hp1 := hpre.out (j + 1)
          rw [hmp.out, ← List.append_assoc] at hp1
          have bX2 : BoxN wr Bx 80 #[.int .i64 x.b.num, .int .i64 x.b.den, .int .i64 x.r.num, .int .i64 x.r.den] := (hf2 Bx fX).1.trans bX
          have x0 : wr.cell? ⟨Bx, 0, none⟩ = some (.int .i64 x.b.num) := bX2.cell 0
          have x1 : wr.cell? ⟨Bx, 1, none⟩ = some (.int .i64 x.b.den) := bX2.cell 1
          have x2 : wr.cell? ⟨Bx, 2, none⟩ = some (.int .i64 x.r.num) := bX2.cell 2
          have x3 : wr.cell? ⟨Bx, 3, none⟩ = some (.int .i64 x.r.den) := bX2.cell 3
          have lX := bX2.lt
          obtain ⟨hg3, hf3⟩ := Kf.alloc hl2 (.cells #[.int .i64 y.b.num, .int .i64 y.b.den, .int .i64 y.r.num, .int .i64 y.r.den] 80) hg2
          have hl3 : bL < (wr.alloc (.cells #[.int .i64 y.b.num, .int .i64 y.b.den, .int .i64 y.r.num, .int .i64 y.r.den] 80)).heap.size := by simp; omega
          obtain ⟨fn, tmps, assign, body, hyy, hR⟩ := hY _ (x, y) (wr.alloc (.cells #[.int .i64 y.b.num, .int .i64 y.b.den, .int .i64 y.r.num, .int .i64 y.r.den] 80)) (hJa _ _ _ hJ2) (by have := hp1.length_le; rw [List.length_append] at this; simp only [List.length_cons, List.length_nil] at this; omega)
          simp only [Buck.cells] at hyy
          have Hp1 := Lib.hid hp1
          clear hy hye hp1
          gi_wp2
          refine hR.mono ?_
          rintro e W3 (⟨rfl, hJ3, hk3⟩ | ⟨rfl, hJx3⟩)
          · obtain ⟨hg4, hf4⟩ := hk3.2 hg3
            have hl4 : bL < W3.heap.size := Nat.lt_of_lt_of_le hl3 hk3.1.size
            gi_wp2
            go_roundw
            case rel => exact ⟨j + 1, hjt, by go_num, by rw [hmp.out, ← List.append_assoc]; exact hJ3, hl4, hg4, fun i hi => ⟨((hf4 i (hf3 i (hf2 i hi).2).2).1.trans (hf3 i (hf2 i hi).2).1).trans (hf2 i hi).1, (hf4 i (hf3 i (hf2 i hi).2).2).2⟩⟩
            case measure => simp [intOf]; omega
          · gi_wp2
            refine bodyPost_ret (results_none rfl _ _ _) rfl ?_
            exact ⟨⟨_, rfl⟩, .inr ⟨_, Hp1.out, hJx3⟩⟩
        · obtain rfl : j = d.length := by omega
          rw [List.take_length] at hJ2
          gi_wp2
          go_roundw
          case rel => exact ⟨k + 1, hlt, by go_num, by rw [hsucc.out]; exact hJ2, hl2, hg2, fun i hi => ⟨(hf2 i (hfr1 i hi).2).1.trans (hfr1 i hi).1, (hf2 i (hfr1 i hi).2).2⟩⟩
          case measure => simp [intOf]; omega
    · obtain rfl : k = c.length := by omega
      rw [twosTo_all] at hJs
      gi_wp2
      go_end0
      exact ⟨⟨_, rfl⟩, .inl ⟨_, rfl, hJs⟩⟩

/-- curve.twos: the slice is boxed; the function value holds the box. -/
theorem twos_in (F : Fence) (n : Nat) (h5 : F.fn 70) (hro : F.round = none) (A : Option Addr) (la ca : Nat) (w : World) :
    CallsIn F n Tryz.prog 70 #[.slice A la ca] w fun e w' => e = .returned (.func (.func 107) #[] #[.pointer (some ⟨w.heap.size, 0, none⟩)]) ∧ w' = w.alloc (.cells #[.slice A la ca] 23) := by
  refine callsIn_of_wp Tryz.func70 rfl h5 ?_ hro
  simp only [Tryz.ntmps70, List.size_toArray, List.length_cons, List.length_nil, Nat.reduceAdd, Nat.reduceSub, Array.replicate_succ, Array.replicate_zero, List.push_toArray, List.append_toArray, List.nil_append, List.cons_append]
  gi_wp2
  go_ret
  exact ⟨rfl, rfl⟩

/-- The function value of curve.twos hands on every two buckets. -/
theorem twos_stops (F : Fence) (n : Nat) (h7 : F.fn 107) (hro : F.round = none) (hn : 1 ≤ n) (Bc n₀ bL : Nat) (c : List Buck) (hc : c.length ≤ 1048576) (w : World) (hl : bL < w.heap.size) (hg : GoodW bL w)
    (hC : BoxSc bL w Bc 23 c) :
    SeqStopsK F n Tryz.prog 107 #[.pointer (some ⟨Bc, 0, none⟩)] (fun x : Buck × Buck => #[.agg x.1.cells.toArray, .agg x.2.cells.toArray]) (Kp2 n₀ bL) (fun ys => ys = twosL c) (fun pre => pre <+: twosL c) (twosL c).length w := fun l J Jx W hW hJ _ hY h0 =>
  twos1_in F n h7 hro hn l Bc n₀ bL c hc J Jx (fun pre W1 o hj => hJ pre W1 _ none hj (World.grownBy_alloc W1 o none) (fun r e => by cases e)) hY W (hg.grow hW hl) (Nat.lt_of_lt_of_le hl hW.size) (hC.grow hW hl) h0
end Go.Proofs.YtaanhddgmiggfaaGreat
