/- curve.pairs: its function value hands on each bucket of the one list with each of the other. -/
import Derived.Test.YtaanhddgmiggfaaGreatMin
namespace Go.Proofs.YtaanhddgmiggfaaGreat
open Go.RowKit Go.Joins Go.Shelf Go.Sort Num
attribute [local go_sem] Oper.semAt_some

/-- The slice that box bL holds lies in a block that is there. -/
def GoodW (bL : Nat) (W : World) : Prop := ∀ v, W.cell? ⟨bL, 0, none⟩ = some v → ∀ g, v.ownBlock = some g → g < W.heap.size
/-- Block k is neither the box bL nor the row of the slice in it. -/
structure FrW (bL : Nat) (W : World) (k : Nat) : Prop where
  cs : ∃ cs t, W.heap[k]? = some (.cells cs t (0, 0))
  ne : k ≠ bL
  nr : ∀ v, W.cell? ⟨bL, 0, none⟩ = some v → v.ownBlock ≠ some k
theorem FrW.lt {bL : Nat} {W : World} {k : Nat} (h : FrW bL W k) : k < W.heap.size := by
  obtain ⟨cs, t, h⟩ := h.cs
  exact (Array.getElem?_eq_some_iff.1 h).1
/-- Blocks that are neither the box nor its row stay as they are. -/
def Kf (bL : Nat) (W W' : World) : Prop := GoodW bL W → (GoodW bL W' ∧ ∀ k, FrW bL W k → W'.heap[k]? = W.heap[k]? ∧ FrW bL W' k)
def Kp2 (n₀ bL : Nat) (W W' : World) : Prop := Below n₀ W W' ∧ Kf bL W W'
theorem Kf.refl (bL : Nat) (W : World) : Kf bL W W := fun h => ⟨h, fun _ hk => ⟨rfl, hk⟩⟩
theorem Kf.trans {bL : Nat} {A B C : World} (h : Kf bL A B) (k : Kf bL B C) : Kf bL A C := fun hg =>
  let ⟨g1, f1⟩ := h hg
  let ⟨g2, f2⟩ := k g1
  ⟨g2, fun i hi => ⟨(f2 i (f1 i hi).2).1.trans (f1 i hi).1, (f2 i (f1 i hi).2).2⟩⟩
theorem cell_same {W W' : World} {b : Nat} (h : W'.heap[b]? = W.heap[b]?) (i : Nat) : W'.cell? ⟨b, i, none⟩ = W.cell? ⟨b, i, none⟩ := by simp [World.cell?, h]
/-- A step that leaves all that was there alone. -/
theorem Kf.below {bL : Nat} {W W' : World} (hb : Below W.heap.size W W') (hl : bL < W.heap.size) : Kf bL W W' := fun hg => by
  have hc := cell_same (hb.block bL hl) 0
  refine ⟨fun v hv g hgv => Nat.lt_of_lt_of_le (hg v (hc ▸ hv) g hgv) hb.size, fun k hk => ⟨hb.block k hk.lt, ?_, hk.ne, fun v hv => hk.nr v (hc ▸ hv)⟩⟩
  obtain ⟨cs, t, h⟩ := hk.cs
  exact ⟨cs, t, (hb.block k hk.lt).trans h⟩
theorem Kf.alloc {bL : Nat} {W : World} (hl : bL < W.heap.size) (o : Obj) : Kf bL W (W.alloc o) := Kf.below ((Below.refl _ _).alloc (Nat.le_refl _) o) hl
theorem FrW.new {bL : Nat} {W : World} (hg : GoodW bL W) (hl : bL < W.heap.size) (cs : Array Value) (t : TypeId) : FrW bL (W.alloc (.cells cs t)) W.heap.size := by
  refine ⟨⟨cs, t, heap_alloc_new W _⟩, by omega, fun v hv h => ?_⟩
  rw [cell_same (Below.heap_alloc W _ bL hl) 0] at hv
  exact Nat.lt_irrefl _ (hg v hv _ h)
theorem Kp2.t {n₀ bL : Nat} {A B C : World} (h : Kp2 n₀ bL A B) (k : Kp2 n₀ bL B C) : Kp2 n₀ bL A C := ⟨h.1.trans k.1, h.2.trans k.2⟩
theorem Kp2.b {n₀ bL : Nat} {w : World} (hn : n₀ ≤ w.heap.size) (hl : bL < w.heap.size) (W : World) (l : Nat) (o o' : Obj) (hwl : w.heap.size ≤ l) (h : W.heap[l]? = some o) (ho : o.isCells = false) (hw : o.isWalk = false) : Kp2 n₀ bL W (W.putObj l o') := by
  refine ⟨belowK_b hn W l o o' hwl h ho hw, fun hg => ?_⟩
  have hs : (W.putObj l o').heap[bL]? = W.heap[bL]? := World.putObj_heap_other (by omega)
  have hc := cell_same hs 0
  have hsz : (W.putObj l o').heap.size = W.heap.size := by simp
  refine ⟨fun v hv g hgv => by rw [hsz]; exact hg v (hc ▸ hv) g hgv, fun k hk => ?_⟩
  obtain ⟨cs, t, hcs⟩ := hk.cs
  have hkl : k ≠ l := by
    rintro rfl
    rw [hcs] at h; cases h; cases ho
  have e : (W.putObj l o').heap[k]? = W.heap[k]? := World.putObj_heap_other hkl
  exact ⟨e, ⟨cs, t, e.trans hcs⟩, hk.ne, fun v hv => hk.nr v (hc ▸ hv)⟩
theorem Row.same {W W' : World} {b off : Nat} {c : List Buck} (h : Row W b off c) (hs : W'.heap[b]? = W.heap[b]?) : Row W' b off c := fun j x hx => by
  obtain ⟨h0, h1, h2, h3⟩ := h j x hx
  exact ⟨(cell_same hs _).trans h0, (cell_same hs _).trans h1, (cell_same hs _).trans h2, (cell_same hs _).trans h3⟩

/-- Each of a with each of b. -/
def pairsL (a b : List Buck) : List (Buck × Buck) := a.flatMap fun x => b.map fun y => (x, y)
theorem split_at {α : Type} {a : List α} {k : Nat} {x : α} (hx : a[k]? = some x) : a = a.take k ++ x :: a.drop (k + 1) := by
  obtain ⟨hk, rfl⟩ := List.getElem?_eq_some_iff.1 hx
  rw [← List.drop_eq_getElem_cons hk, List.take_append_drop]
theorem pairs_pre {a b : List Buck} {k : Nat} {x : Buck} (hx : a[k]? = some x) (j : Nat) : pairsL (a.take k) b ++ (b.take j).map (fun y => (x, y)) <+: pairsL a b := by
  have h1 := split_at hx
  refine ⟨(b.drop j).map (fun y => (x, y)) ++ pairsL (a.drop (k + 1)) b, ?_⟩
  conv => rhs; rw [h1]
  unfold pairsL
  rw [List.flatMap_append, List.flatMap_cons, List.append_assoc, ← List.append_assoc ((b.take j).map _), ← List.map_append, List.take_append_drop]
theorem pairs_succ {a b : List Buck} {k : Nat} {x : Buck} (hx : a[k]? = some x) : pairsL (a.take (k + 1)) b = pairsL (a.take k) b ++ b.map (fun y => (x, y)) := by
  unfold pairsL; rw [take_succ' hx, List.flatMap_append]; simp

/-- The slice value of the box B and its row stay, for they are not the caller's. -/
structure BoxSl (bL : Nat) (W : World) (B : Nat) (t : TypeId) (c : List Buck) : Prop where
  f : FrW bL W B
  h : ∃ A cap, BoxN W B t #[.slice A c.length cap] ∧ (c ≠ [] → ∃ b off, A = some ⟨b, off, none⟩ ∧ FrW bL W b ∧ Row W b off c)
theorem BoxSl.keep {bL : Nat} {W W' : World} {B : Nat} {t : TypeId} {c : List Buck} (h : BoxSl bL W B t c) (k : ∀ k, FrW bL W k → W'.heap[k]? = W.heap[k]? ∧ FrW bL W' k) : BoxSl bL W' B t c := by
  obtain ⟨A, cap, h1, h2⟩ := h.h
  refine ⟨(k _ h.f).2, A, cap, (k _ h.f).1.trans h1, fun hc => ?_⟩
  obtain ⟨b, off, e, hf, hr⟩ := h2 hc
  exact ⟨b, off, e, (k _ hf).2, hr.same (k _ hf).1⟩

set_option maxRecDepth 100000 in
set_option maxHeartbeats 4000000 in
theorem pairs1_in (F : Fence) (n : Nat) (h7 : F.fn 104) (hro : F.round = none) (hn : 1 ≤ n) (l Ba Bb n₀ bL : Nat) (a b : List Buck) (ha : a.length ≤ 1048576) (hb : b.length ≤ 1048576) (J Jx : List (Buck × Buck) → World → Prop)
    (hJa : ∀ pre W o, J pre W → J pre (W.alloc o))
    (hY : ∀ pre x W, J pre W → pre.length < (pairsL a b).length → YieldAt F (n - 1) Tryz.prog l #[.agg x.1.cells.toArray, .agg x.2.cells.toArray] W fun e W' =>
      (e = .returned (.bool true) ∧ J (pre ++ [x]) W' ∧ Kp2 n₀ bL W W') ∨ (e = .returned (.bool false) ∧ Jx (pre ++ [x]) W'))
    (W : World) (hg : GoodW bL W) (hl : bL < W.heap.size) (hA : BoxSl bL W Ba 23 a) (hB : BoxSl bL W Bb 23 b) (h0 : J [] W) :
    CallsIn F n Tryz.prog 104 #[.func (.yield l) #[] #[], .pointer (some ⟨Ba, 0, none⟩), .pointer (some ⟨Bb, 0, none⟩)] W fun e W' => (∃ v, e = .returned v) ∧
      ((∃ ys, ys = pairsL a b ∧ J ys W') ∨ (∃ pre, pre <+: pairsL a b ∧ Jx pre W')) := by
  refine callsIn_of_wp Tryz.func104 rfl h7 ?_ hro
  simp only [Tryz.ntmps104, List.size_toArray, List.length_cons, List.length_nil, Nat.reduceAdd, Nat.reduceSub, Array.replicate_succ, Array.replicate_zero, List.push_toArray, List.append_toArray, List.nil_append, List.cons_append]
  obtain ⟨A, capA, hbA, hrA⟩ := hA.h
  have cA : W.cell? ⟨Ba, 0, none⟩ = some (.slice A a.length capA) := hbA.cell 0
  gi_wp2
  gi_loopw [10] (fun i wr => ∃ k : Nat, k ≤ a.length ∧ i = .int .i64 k ∧ J (pairsL (a.take k) b) wr ∧ bL < wr.heap.size ∧ GoodW bL wr ∧ ∀ j, FrW bL W j → wr.heap[j]? = W.heap[j]? ∧ FrW bL wr j)
    (fun i _ => a.length - (intOf i).toNat)
  case atStart => exact ⟨0, Nat.zero_le _, rfl, by simpa [pairsL] using h0, hl, hg, fun j hj => ⟨rfl, hj⟩⟩
  case round =>
    obtain ⟨k, hk, rfl, hJs, hlr, hgr, hfr⟩ := hrel
    by_cases hlt : k < a.length
    · have hx : a[k]? = some a[k] := List.getElem?_eq_getElem hlt
      obtain ⟨x, hxe⟩ : ∃ x, a[k] = x := ⟨_, rfl⟩
      rw [hxe] at hx
      obtain ⟨ba, oa, rfl, hfa, hra⟩ := hrA (by intro h; subst h; simp at hlt)
      obtain ⟨c0, c1, c2, c3⟩ := (hra.same (hfr ba hfa).1) k x hx
      obtain ⟨-, B', capB, hbB, hrB⟩ := hB.keep hfr
      have lBb : Bb < wr.heap.size := hbB.lt
      have cB : wr.cell? ⟨Bb, 0, none⟩ = some (.slice B' b.length capB) := hbB.cell 0
      have hsucc := Lib.hid (pairs_succ (b := b) hx)
      have hpre := Lib.hid (fun j => pairs_pre (b := b) hx j)
      have Hx := Lib.hid hx
      clear hx hxe
      gi_wp2
      have bX := BoxN.new wr 80 #[.int .i64 x.b.num, .int .i64 x.b.den, .int .i64 x.r.num, .int .i64 x.r.den]
      have fX := FrW.new hgr hlr #[.int .i64 x.b.num, .int .i64 x.b.den, .int .i64 x.r.num, .int .i64 x.r.den] 80
      have hJ1 := hJa _ _ (.cells #[.int .i64 x.b.num, .int .i64 x.b.den, .int .i64 x.r.num, .int .i64 x.r.den] 80) hJs
      obtain ⟨hg1, hf1⟩ := Kf.alloc hlr (.cells #[.int .i64 x.b.num, .int .i64 x.b.den, .int .i64 x.r.num, .int .i64 x.r.den] 80) hgr
      have hl1 : bL < (wr.alloc (.cells #[.int .i64 x.b.num, .int .i64 x.b.den, .int .i64 x.r.num, .int .i64 x.r.den] 80)).heap.size := by simp; omega
      have hfr1 : ∀ i, FrW bL W i → (wr.alloc (.cells #[.int .i64 x.b.num, .int .i64 x.b.den, .int .i64 x.r.num, .int .i64 x.r.den] 80)).heap[i]? = W.heap[i]? ∧ FrW bL (wr.alloc (.cells #[.int .i64 x.b.num, .int .i64 x.b.den, .int .i64 x.r.num, .int .i64 x.r.den] 80)) i := fun i hi => ⟨(hf1 i (hfr i hi).2).1.trans (hfr i hi).1, (hf1 i (hfr i hi).2).2⟩
      have hrB1 : b ≠ [] → ∃ g o, B' = some ⟨g, o, none⟩ ∧ FrW bL (wr.alloc (.cells #[.int .i64 x.b.num, .int .i64 x.b.den, .int .i64 x.r.num, .int .i64 x.r.den] 80)) g ∧ Row (wr.alloc (.cells #[.int .i64 x.b.num, .int .i64 x.b.den, .int .i64 x.r.num, .int .i64 x.r.den] 80)) g o b := fun h => by
        obtain ⟨g, o, e, f, r⟩ := hrB h
        exact ⟨g, o, e, (hf1 g f).2, r.same (hf1 g f).1⟩
      clear hf1 hfr hgr hJs c0 c1 c2 c3 cB hbB hrB
      generalize wr.alloc (.cells #[.int .i64 x.b.num, .int .i64 x.b.den, .int .i64 x.r.num, .int .i64 x.r.den] 80) = W1 at bX fX hJ1 hg1 hl1 hfr1 hrB1 ⊢
      generalize wr.heap.size = Bx at bX fX ⊢
      gi_loopw [16] (fun i w2 => ∃ j : Nat, j ≤ b.length ∧ i = .int .i64 j ∧ J (pairsL (a.take k) b ++ (b.take j).map (fun y => (x, y))) w2 ∧ bL < w2.heap.size ∧ GoodW bL w2 ∧ ∀ i, FrW bL W1 i → w2.heap[i]? = W1.heap[i]? ∧ FrW bL w2 i)
        (fun i _ => b.length - (intOf i).toNat)
      case atStart => exact ⟨0, Nat.zero_le _, rfl, by simpa using hJ1, hl1, hg1, fun j hj => ⟨rfl, hj⟩⟩
      case round =>
        obtain ⟨j, hj, rfl, hJ2, hl2, hg2, hf2⟩ := hrel
        by_cases hjt : j < b.length
        · have hy : b[j]? = some b[j] := List.getElem?_eq_getElem hjt
          obtain ⟨y, hye⟩ : ∃ y, b[j] = y := ⟨_, rfl⟩
          rw [hye] at hy
          obtain ⟨bb, ob, rfl, hfb, hrb⟩ := hrB1 (by intro h; subst h; simp at hjt)
          obtain ⟨d0, d1, d2, d3⟩ := (hrb.same (hf2 bb hfb).1) j y hy
          have hmp : Hid ((b.take (j + 1)).map (fun y => (x, y)) = (b.take j).map (fun y => (x, y)) ++ [(x, y)]) := by unfold Hid; rw [take_succ' hy]; simp
          have hp1 := hpre.out (j + 1)
          rw [hmp.out, ← List.append_assoc] at hp1
          have bX2 : BoxN wr Bx 80 #[.int .i64 x.b.num, .int .i64 x.b.den, .int .i64 x.r.num, .int .i64 x.r.den] := (hf2 Bx fX).1.trans bX
          have x0 : wr.cell? ⟨Bx, 0, none⟩ = some (.int .i64 x.b.num) := bX2.cell 0
          have x1 : wr.cell? ⟨Bx, 1, none⟩ = some (.int .i64 x.b.den) := bX2.cell 1
          have x2 : wr.cell? ⟨Bx, 2, none⟩ = some (.int .i64 x.r.num) := bX2.cell 2
          have x3 : wr.cell? ⟨Bx, 3, none⟩ = some (.int .i64 x.r.den) := bX2.cell 3
          have lX := bX2.lt
          obtain ⟨hg3, hf3⟩ := Kf.alloc hl2 (.cells #[.int .i64 y.b.num, .int .i64 y.b.den, .int .i64 y.r.num, .int .i64 y.r.den] 80) hg2
          have hl3 : bL < (wr.alloc (.cells #[.int .i64 y.b.num, .int .i64 y.b.den, .int .i64 y.r.num, .int .i64 y.r.den] 80)).heap.size := by simp; omega
          obtain ⟨fn, tmps, assign, body, hyy, hR⟩ := hY _ (x, y) (wr.alloc (.cells #[.int .i64 y.b.num, .int .i64 y.b.den, .int .i64 y.r.num, .int .i64 y.r.den] 80)) (hJa _ _ _ hJ2) (by have := hp1.length_le; rw [List.length_append] at this; simp only [List.length_cons, List.length_nil] at this; omega)
          simp only [Buck.cells] at hyy
          have Hp1 := Lib.hid hp1
          clear hy hye hp1
          gi_wp2
          refine hR.mono ?_
          rintro e W3 (⟨rfl, hJ3, hk3⟩ | ⟨rfl, hJx3⟩)
          · obtain ⟨hg4, hf4⟩ := hk3.2 hg3
            have hl4 : bL < W3.heap.size := Nat.lt_of_lt_of_le hl3 hk3.1.size
            gi_wp2
            go_roundw
            case rel => exact ⟨j + 1, hjt, by go_num, by rw [hmp.out, ← List.append_assoc]; exact hJ3, hl4, hg4, fun i hi => ⟨((hf4 i (hf3 i (hf2 i hi).2).2).1.trans (hf3 i (hf2 i hi).2).1).trans (hf2 i hi).1, (hf4 i (hf3 i (hf2 i hi).2).2).2⟩⟩
            case measure => simp [intOf]; omega
          · gi_wp2
            refine bodyPost_ret (results_none rfl _ _ _) rfl ?_
            exact ⟨⟨_, rfl⟩, .inr ⟨_, Hp1.out, hJx3⟩⟩
        · obtain rfl : j = b.length := by omega
          rw [List.take_length] at hJ2
          gi_wp2
          go_roundw
          case rel => exact ⟨k + 1, hlt, by go_num, by rw [hsucc.out]; exact hJ2, hl2, hg2, fun i hi => ⟨(hf2 i (hfr1 i hi).2).1.trans (hfr1 i hi).1, (hf2 i (hfr1 i hi).2).2⟩⟩
          case measure => simp [intOf]; omega
    · obtain rfl : k = a.length := by omega
      gi_wp2
      go_end0
      exact ⟨⟨_, rfl⟩, .inl ⟨_, rfl, by simpa using hJs⟩⟩

/-- curve.pairs: both slices are boxed; the function value holds the boxes. -/
theorem pairs_in (F : Fence) (n : Nat) (h5 : F.fn 66) (hro : F.round = none) (A B : Option Addr) (la ca lb cb : Nat) (w : World) :
    CallsIn F n Tryz.prog 66 #[.slice A la ca, .slice B lb cb] w fun e w' => e = .returned (.func (.func 104) #[] #[.pointer (some ⟨w.heap.size, 0, none⟩), .pointer (some ⟨w.heap.size + 1, 0, none⟩)]) ∧ w' = (w.alloc (.cells #[.slice A la ca] 23)).alloc (.cells #[.slice B lb cb] 23) := by
  refine callsIn_of_wp Tryz.func66 rfl h5 ?_ hro
  simp only [Tryz.ntmps66, List.size_toArray, List.length_cons, List.length_nil, Nat.reduceAdd, Nat.reduceSub, Array.replicate_succ, Array.replicate_zero, List.push_toArray, List.append_toArray, List.nil_append, List.cons_append]
  gi_wp2
  go_ret
  exact ⟨rfl, rfl⟩

theorem FrW.grow {bL : Nat} {w W : World} (hb : Below w.heap.size w W) (hl : bL < w.heap.size) {k : Nat} (h : FrW bL w k) : FrW bL W k := by
  obtain ⟨cs, t, hk⟩ := h.cs
  have hc := cell_same (hb.block bL hl) 0
  exact ⟨⟨cs, t, (hb.block k h.lt).trans hk⟩, h.ne, fun v hv => h.nr v (hc ▸ hv)⟩
theorem BoxSl.grow {bL : Nat} {w W : World} (hb : Below w.heap.size w W) (hl : bL < w.heap.size) {B : Nat} {t : TypeId} {c : List Buck} (h : BoxSl bL w B t c) : BoxSl bL W B t c := h.keep fun k hk => ⟨hb.block k hk.lt, hk.grow hb hl⟩
theorem GoodW.grow {bL : Nat} {w W : World} (hb : Below w.heap.size w W) (hl : bL < w.heap.size) (h : GoodW bL w) : GoodW bL W := fun v hv g hg => Nat.lt_of_lt_of_le (h v ((cell_same (hb.block bL hl) 0) ▸ hv) g hg) hb.size

/-- The function value of curve.pairs hands on each bucket of a with each of b. -/
theorem pairs_stops (F : Fence) (n : Nat) (h7 : F.fn 104) (hro : F.round = none) (hn : 1 ≤ n) (Ba Bb n₀ bL : Nat) (a b : List Buck) (ha : a.length ≤ 1048576) (hb : b.length ≤ 1048576) (w : World) (hl : bL < w.heap.size) (hg : GoodW bL w)
    (hA : BoxSl bL w Ba 23 a) (hB : BoxSl bL w Bb 23 b) :
    SeqStopsK F n Tryz.prog 104 #[.pointer (some ⟨Ba, 0, none⟩), .pointer (some ⟨Bb, 0, none⟩)] (fun x : Buck × Buck => #[.agg x.1.cells.toArray, .agg x.2.cells.toArray]) (Kp2 n₀ bL) (fun ys => ys = pairsL a b) (fun pre => pre <+: pairsL a b) (pairsL a b).length w := fun l J Jx W hW hJ _ hY h0 =>
  pairs1_in F n h7 hro hn l Ba Bb n₀ bL a b ha hb J Jx (fun pre W1 o hj => hJ pre W1 _ none hj (World.grownBy_alloc W1 o none) (fun r e => by cases e)) hY W (hg.grow hW hl) (Nat.lt_of_lt_of_le hl hW.size) (hA.grow hW hl) (hB.grow hW hl) h0
end Go.Proofs.YtaanhddgmiggfaaGreat
