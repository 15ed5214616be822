/- Merged texts: Pairs, Sum, SumOk, Twos, Pts, Compact, Nf. -/
import Derived.Test.YtbncfknjgldcbaaGreatM2
import Derived.Lib.SliceRun
import Derived.IntWalk
/- curve.pairs: its function value hands on each bucket of the one list with each of the other. -/
namespace Go.Proofs.YtbncfknjgldcbaaGreat
open Go.RowKit Go.Joins Go.Shelf Go.Sort Num
attribute [local go_sem] Oper.semAt_some

/-- The slice that box bL holds lies in a block that is there. -/
def GoodW (bL : Nat) (W : World) : Prop := ∀ v, W.cell? ⟨bL, 0, none⟩ = some v → ∀ g, v.ownBlock = some g → g < W.heap.size
/-- Block k is neither the box bL nor the row of the slice in it. -/
structure FrW (bL : Nat) (W : World) (k : Nat) : Prop where
  cs : ∃ cs t, W.heap[k]? = some (.cells cs t (0, 0))
  ne : k ≠ bL
  nr : ∀ v, W.cell? ⟨bL, 0, none⟩ = some v → v.ownBlock ≠ some k
theorem FrW.lt {bL : Nat} {W : World} {k : Nat} (h : FrW bL W k) : k < W.heap.size := by
  obtain ⟨cs, t, h⟩ := h.cs
  exact (Array.getElem?_eq_some_iff.1 h).1
/-- Blocks that are neither the box nor its row stay as they are. -/
def Kf (bL : Nat) (W W' : World) : Prop := GoodW bL W → (GoodW bL W' ∧ ∀ k, FrW bL W k → W'.heap[k]? = W.heap[k]? ∧ FrW bL W' k)
def Kp2 (n₀ bL : Nat) (W W' : World) : Prop := Below n₀ W W' ∧ Kf bL W W'
theorem Kf.refl (bL : Nat) (W : World) : Kf bL W W := fun h => ⟨h, fun _ hk => ⟨rfl, hk⟩⟩
theorem Kf.trans {bL : Nat} {A B C : World} (h : Kf bL A B) (k : Kf bL B C) : Kf bL A C := fun hg =>
  let ⟨g1, f1⟩ := h hg
  let ⟨g2, f2⟩ := k g1
  ⟨g2, fun i hi => ⟨(f2 i (f1 i hi).2).1.trans (f1 i hi).1, (f2 i (f1 i hi).2).2⟩⟩
theorem cell_same {W W' : World} {b : Nat} (h : W'.heap[b]? = W.heap[b]?) (i : Nat) : W'.cell? ⟨b, i, none⟩ = W.cell? ⟨b, i, none⟩ := by simp [World.cell?, h]
/-- A step that leaves all that was there alone. -/
theorem Kf.below {bL : Nat} {W W' : World} (hb : Below W.heap.size W W') (hl : bL < W.heap.size) : Kf bL W W' := fun hg => by
  have hc := cell_same (hb.block bL hl) 0
  refine ⟨fun v hv g hgv => Nat.lt_of_lt_of_le (hg v (hc ▸ hv) g hgv) hb.size, fun k hk => ⟨hb.block k hk.lt, ?_, hk.ne, fun v hv => hk.nr v (hc ▸ hv)⟩⟩
  obtain ⟨cs, t, h⟩ := hk.cs
  exact ⟨cs, t, (hb.block k hk.lt).trans h⟩
theorem Kf.alloc {bL : Nat} {W : World} (hl : bL < W.heap.size) (o : Obj) : Kf bL W (W.alloc o) := Kf.below ((Below.refl _ _).alloc (Nat.le_refl _) o) hl
theorem FrW.new {bL : Nat} {W : World} (hg : GoodW bL W) (hl : bL < W.heap.size) (cs : Array Value) (t : TypeId) : FrW bL (W.alloc (.cells cs t)) W.heap.size := by
  refine ⟨⟨cs, t, heap_alloc_new W _⟩, by omega, fun v hv h => ?_⟩
  rw [cell_same (Below.heap_alloc W _ bL hl) 0] at hv
  exact Nat.lt_irrefl _ (hg v hv _ h)
theorem Kp2.t {n₀ bL : Nat} {A B C : World} (h : Kp2 n₀ bL A B) (k : Kp2 n₀ bL B C) : Kp2 n₀ bL A C := ⟨h.1.trans k.1, h.2.trans k.2⟩
theorem Kp2.b {n₀ bL : Nat} {w : World} (hn : n₀ ≤ w.heap.size) (hl : bL < w.heap.size) (W : World) (l : Nat) (o o' : Obj) (hwl : w.heap.size ≤ l) (h : W.heap[l]? = some o) (ho : o.isCells = false) (hw : o.isWalk = false) : Kp2 n₀ bL W (W.putObj l o') := by
  refine ⟨belowK_b hn W l o o' hwl h ho hw, fun hg => ?_⟩
  have hs : (W.putObj l o').heap[bL]? = W.heap[bL]? := World.putObj_heap_other (by omega)
  have hc := cell_same hs 0
  have hsz : (W.putObj l o').heap.size = W.heap.size := by simp
  refine ⟨fun v hv g hgv => by rw [hsz]; exact hg v (hc ▸ hv) g hgv, fun k hk => ?_⟩
  obtain ⟨cs, t, hcs⟩ := hk.cs
  have hkl : k ≠ l := by
    rintro rfl
    rw [hcs] at h; cases h; cases ho
  have e : (W.putObj l o').heap[k]? = W.heap[k]? := World.putObj_heap_other hkl
  exact ⟨e, ⟨cs, t, e.trans hcs⟩, hk.ne, fun v hv => hk.nr v (hc ▸ hv)⟩
theorem Row.same {W W' : World} {b off : Nat} {c : List Buck} (h : Row W b off c) (hs : W'.heap[b]? = W.heap[b]?) : Row W' b off c := fun j x hx => by
  obtain ⟨h0, h1, h2, h3⟩ := h j x hx
  exact ⟨(cell_same hs _).trans h0, (cell_same hs _).trans h1, (cell_same hs _).trans h2, (cell_same hs _).trans h3⟩

/-- Each of a with each of b. -/
def pairsL (a b : List Buck) : List (Buck × Buck) := a.flatMap fun x => b.map fun y => (x, y)
theorem split_at {α : Type} {a : List α} {k : Nat} {x : α} (hx : a[k]? = some x) : a = a.take k ++ x :: a.drop (k + 1) := by
  obtain ⟨hk, rfl⟩ := List.getElem?_eq_some_iff.1 hx
  rw [← List.drop_eq_getElem_cons hk, List.take_append_drop]
theorem pairs_pre {a b : List Buck} {k : Nat} {x : Buck} (hx : a[k]? = some x) (j : Nat) : pairsL (a.take k) b ++ (b.take j).map (fun y => (x, y)) <+: pairsL a b := by
  have h1 := split_at hx
  refine ⟨(b.drop j).map (fun y => (x, y)) ++ pairsL (a.drop (k + 1)) b, ?_⟩
  conv => rhs; rw [h1]
  unfold pairsL
  rw [List.flatMap_append, List.flatMap_cons, List.append_assoc, ← List.append_assoc ((b.take j).map _), ← List.map_append, List.take_append_drop]
theorem pairs_succ {a b : List Buck} {k : Nat} {x : Buck} (hx : a[k]? = some x) : pairsL (a.take (k + 1)) b = pairsL (a.take k) b ++ b.map (fun y => (x, y)) := by
  unfold pairsL; rw [take_succ' hx, List.flatMap_append]; simp

/-- The slice value of the box B and its row stay, for they are not the caller's. -/
structure BoxSl (bL : Nat) (W : World) (B : Nat) (t : TypeId) (c : List Buck) : Prop where
  f : FrW bL W B
  h : ∃ A cap, BoxN W B t #[.slice A c.length cap] ∧ (c ≠ [] → ∃ b off, A = some ⟨b, off, none⟩ ∧ FrW bL W b ∧ Row W b off c)
theorem BoxSl.keep {bL : Nat} {W W' : World} {B : Nat} {t : TypeId} {c : List Buck} (h : BoxSl bL W B t c) (k : ∀ k, FrW bL W k → W'.heap[k]? = W.heap[k]? ∧ FrW bL W' k) : BoxSl bL W' B t c := by
  obtain ⟨A, cap, h1, h2⟩ := h.h
  refine ⟨(k _ h.f).2, A, cap, (k _ h.f).1.trans h1, fun hc => ?_⟩
  obtain ⟨b, off, e, hf, hr⟩ := h2 hc
  exact ⟨b, off, e, (k _ hf).2, hr.same (k _ hf).1⟩

set_option maxRecDepth 100000 in
set_option maxHeartbeats 4000000 in
theorem pairs1_in (F : Fence) (n : Nat) (h7 : F.fn 98) (hro : F.round = none) (hn : 1 ≤ n) (l Ba Bb n₀ bL : Nat) (a b : List Buck) (ha : a.length ≤ 1048576) (hb : b.length ≤ 1048576) (J Jx : List (Buck × Buck) → World → Prop)
    (hJa : ∀ pre W o, J pre W → J pre (W.alloc o))
    (hY : ∀ pre x W, J pre W → pre.length < (pairsL a b).length → YieldAt F (n - 1) Tryz.prog l #[.agg x.1.cells.toArray, .agg x.2.cells.toArray] W fun e W' =>
      (e = .returned (.bool true) ∧ J (pre ++ [x]) W' ∧ Kp2 n₀ bL W W') ∨ (e = .returned (.bool false) ∧ Jx (pre ++ [x]) W'))
    (W : World) (hg : GoodW bL W) (hl : bL < W.heap.size) (hA : BoxSl bL W Ba 23 a) (hB : BoxSl bL W Bb 23 b) (h0 : J [] W) :
    CallsIn F n Tryz.prog 98 #[.func (.yield l) #[] #[], .pointer (some ⟨Ba, 0, none⟩), .pointer (some ⟨Bb, 0, none⟩)] W fun e W' => (∃ v, e = .returned v) ∧
      ((∃ ys, ys = pairsL a b ∧ J ys W') ∨ (∃ pre, pre <+: pairsL a b ∧ Jx pre W')) := by
  refine callsIn_of_wp Tryz.func98 rfl h7 ?_ hro
  simp only [Tryz.ntmps98, List.size_toArray, List.length_cons, List.length_nil, Nat.reduceAdd, Nat.reduceSub, Array.replicate_succ, Array.replicate_zero, List.push_toArray, List.append_toArray, List.nil_append, List.cons_append]
  obtain ⟨A, capA, hbA, hrA⟩ := hA.h
  have cA : W.cell? ⟨Ba, 0, none⟩ = some (.slice A a.length capA) := hbA.cell 0
  gi_wp2
  gi_loopw [10] (fun i wr => ∃ k : Nat, k ≤ a.length ∧ i = .int .i64 k ∧ J (pairsL (a.take k) b) wr ∧ bL < wr.heap.size ∧ GoodW bL wr ∧ ∀ j, FrW bL W j → wr.heap[j]? = W.heap[j]? ∧ FrW bL wr j)
    (fun i _ => a.length - (intOf i).toNat)
  case atStart => exact ⟨0, Nat.zero_le _, rfl, by simpa [pairsL] using h0, hl, hg, fun j hj => ⟨rfl, hj⟩⟩
  case round =>
    obtain ⟨k, hk, rfl, hJs, hlr, hgr, hfr⟩ := hrel
    by_cases hlt : k < a.length
    · have hx : a[k]? = some a[k] := List.getElem?_eq_getElem hlt
      obtain ⟨x, hxe⟩ : ∃ x, a[k] = x := ⟨_, rfl⟩
      rw [hxe] at hx
      obtain ⟨ba, oa, rfl, hfa, hra⟩ := hrA (by intro h; subst h; simp at hlt)
      obtain ⟨c0, c1, c2, c3⟩ := (hra.same (hfr ba hfa).1) k x hx
      obtain ⟨-, B', capB, hbB, hrB⟩ := hB.keep hfr
      have lBb : Bb < wr.heap.size := hbB.lt
      have cB : wr.cell? ⟨Bb, 0, none⟩ = some (.slice B' b.length capB) := hbB.cell 0
      have hsucc := Lib.hid (pairs_succ (b := b) hx)
      have hpre := Lib.hid (fun j => pairs_pre (b := b) hx j)
      have Hx := Lib.hid hx
      clear hx hxe
      gi_wp2
      have bX := BoxN.new wr 80 #[.int .i64 x.b.num, .int .i64 x.b.den, .int .i64 x.r.num, .int .i64 x.r.den]
      have fX := FrW.new hgr hlr #[.int .i64 x.b.num, .int .i64 x.b.den, .int .i64 x.r.num, .int .i64 x.r.den] 80
      have hJ1 := hJa _ _ (.cells #[.int .i64 x.b.num, .int .i64 x.b.den, .int .i64 x.r.num, .int .i64 x.r.den] 80) hJs
      obtain ⟨hg1, hf1⟩ := Kf.alloc hlr (.cells #[.int .i64 x.b.num, .int .i64 x.b.den, .int .i64 x.r.num, .int .i64 x.r.den] 80) hgr
      have hl1 : bL < (wr.alloc (.cells #[.int .i64 x.b.num, .int .i64 x.b.den, .int .i64 x.r.num, .int .i64 x.r.den] 80)).heap.size := by simp; omega
      have hfr1 : ∀ i, FrW bL W i → (wr.alloc (.cells #[.int .i64 x.b.num, .int .i64 x.b.den, .int .i64 x.r.num, .int .i64 x.r.den] 80)).heap[i]? = W.heap[i]? ∧ FrW bL (wr.alloc (.cells #[.int .i64 x.b.num, .int .i64 x.b.den, .int .i64 x.r.num, .int .i64 x.r.den] 80)) i := fun i hi => ⟨(hf1 i (hfr i hi).2).1.trans (hfr i hi).1, (hf1 i (hfr i hi).2).2⟩
      have hrB1 : b ≠ [] → ∃ g o, B' = some ⟨g, o, none⟩ ∧ FrW bL (wr.alloc (.cells #[.int .i64 x.b.num, .int .i64 x.b.den, .int .i64 x.r.num, .int .i64 x.r.den] 80)) g ∧ Row (wr.alloc (.cells #[.int .i64 x.b.num, .int .i64 x.b.den, .int .i64 x.r.num, .int .i64 x.r.den] 80)) g o b := fun h => by
        obtain ⟨g, o, e, f, r⟩ := hrB h
        exact ⟨g, o, e, (hf1 g f).2, r.same (hf1 g f).1⟩
      clear hf1 hfr hgr hJs c0 c1 c2 c3 cB hbB hrB
      generalize wr.alloc (.cells #[.int .i64 x.b.num, .int .i64 x.b.den, .int .i64 x.r.num, .int .i64 x.r.den] 80) = W1 at bX fX hJ1 hg1 hl1 hfr1 hrB1 ⊢
      generalize wr.heap.size = Bx at bX fX ⊢
      gi_loopw [16] (fun i w2 => ∃ j : Nat, j ≤ b.length ∧ i = .int .i64 j ∧ J (pairsL (a.take k) b ++ (b.take j).map (fun y => (x, y))) w2 ∧ bL < w2.heap.size ∧ GoodW bL w2 ∧ ∀ i, FrW bL W1 i → w2.heap[i]? = W1.heap[i]? ∧ FrW bL w2 i)
        (fun i _ => b.length - (intOf i).toNat)
      case atStart => exact ⟨0, Nat.zero_le _, rfl, by simpa using hJ1, hl1, hg1, fun j hj => ⟨rfl, hj⟩⟩
      case round =>
        obtain ⟨j, hj, rfl, hJ2, hl2, hg2, hf2⟩ := hrel
        by_cases hjt : j < b.length
        · have hy : b[j]? = some b[j] := List.getElem?_eq_getElem hjt
          obtain ⟨y, hye⟩ : ∃ y, b[j] = y := ⟨_, rfl⟩
          rw [hye] at hy
          obtain ⟨bb, ob, rfl, hfb, hrb⟩ := hrB1 (by intro h; subst h; simp at hjt)
          obtain ⟨d0, d1, d2, d3⟩ := (hrb.same (hf2 bb hfb).1) j y hy
          have hmp : Hid ((b.take (j + 1)).map (fun y => (x, y)) = (b.take j).map (fun y => (x, y)) ++ [(x, y)]) := by unfold Hid; rw [take_succ' hy]; simp
          have hp1 := hpre.out (j + 1)
          rw [hmp.out, ← List.append_assoc] at hp1
          have bX2 : BoxN wr Bx 80 #[.int .i64 x.b.num, .int .i64 x.b.den, .int .i64 x.r.num, .int .i64 x.r.den] := (hf2 Bx fX).1.trans bX
          have x0 : wr.cell? ⟨Bx, 0, none⟩ = some (.int .i64 x.b.num) := bX2.cell 0
          have x1 : wr.cell? ⟨Bx, 1, none⟩ = some (.int .i64 x.b.den) := bX2.cell 1
          have x2 : wr.cell? ⟨Bx, 2, none⟩ = some (.int .i64 x.r.num) := bX2.cell 2
          have x3 : wr.cell? ⟨Bx, 3, none⟩ = some (.int .i64 x.r.den) := bX2.cell 3
          have lX := bX2.lt
          obtain ⟨hg3, hf3⟩ := Kf.alloc hl2 (.cells #[.int .i64 y.b.num, .int .i64 y.b.den, .int .i64 y.r.num, .int .i64 y.r.den] 80) hg2
          have hl3 : bL < (wr.alloc (.cells #[.int .i64 y.b.num, .int .i64 y.b.den, .int .i64 y.r.num, .int .i64 y.r.den] 80)).heap.size := by simp; omega
          obtain ⟨fn, tmps, assign, body, hyy, hR⟩ := hY _ (x, y) (wr.alloc (.cells #[.int .i64 y.b.num, .int .i64 y.b.den, .int .i64 y.r.num, .int .i64 y.r.den] 80)) (hJa _ _ _ hJ2) (by have := hp1.length_le; rw [List.length_append] at this; simp only [List.length_cons, List.length_nil] at this; omega)
          simp only [Buck.cells] at hyy
          have Hp1 := Lib.hid hp1
          clear hy hye hp1
          gi_wp2
          refine hR.mono ?_
          rintro e W3 (⟨rfl, hJ3, hk3⟩ | ⟨rfl, hJx3⟩)
          · obtain ⟨hg4, hf4⟩ := hk3.2 hg3
            have hl4 : bL < W3.heap.size := Nat.lt_of_lt_of_le hl3 hk3.1.size
            gi_wp2
            go_roundw
            case rel => exact ⟨j + 1, hjt, by go_num, by rw [hmp.out, ← List.append_assoc]; exact hJ3, hl4, hg4, fun i hi => ⟨((hf4 i (hf3 i (hf2 i hi).2).2).1.trans (hf3 i (hf2 i hi).2).1).trans (hf2 i hi).1, (hf4 i (hf3 i (hf2 i hi).2).2).2⟩⟩
            case measure => simp [intOf]; omega
          · gi_wp2
            refine bodyPost_ret (results_none rfl _ _ _) rfl ?_
            exact ⟨⟨_, rfl⟩, .inr ⟨_, Hp1.out, hJx3⟩⟩
        · obtain rfl : j = b.length := by omega
          rw [List.take_length] at hJ2
          gi_wp2
          go_roundw
          case rel => exact ⟨k + 1, hlt, by go_num, by rw [hsucc.out]; exact hJ2, hl2, hg2, fun i hi => ⟨(hf2 i (hfr1 i hi).2).1.trans (hfr1 i hi).1, (hf2 i (hfr1 i hi).2).2⟩⟩
          case measure => simp [intOf]; omega
    · obtain rfl : k = a.length := by omega
      gi_wp2
      go_end0
      exact ⟨⟨_, rfl⟩, .inl ⟨_, rfl, by simpa using hJs⟩⟩

/-- curve.pairs: both slices are boxed; the function value holds the boxes. -/
theorem pairs_in (F : Fence) (n : Nat) (h5 : F.fn 58) (hro : F.round = none) (A B : Option Addr) (la ca lb cb : Nat) (w : World) :
    CallsIn F n Tryz.prog 58 #[.slice A la ca, .slice B lb cb] w fun e w' => e = .returned (.func (.func 98) #[] #[.pointer (some ⟨w.heap.size, 0, none⟩), .pointer (some ⟨w.heap.size + 1, 0, none⟩)]) ∧ w' = (w.alloc (.cells #[.slice A la ca] 23)).alloc (.cells #[.slice B lb cb] 23) := by
  refine callsIn_of_wp Tryz.func58 rfl h5 ?_ hro
  simp only [Tryz.ntmps58, List.size_toArray, List.length_cons, List.length_nil, Nat.reduceAdd, Nat.reduceSub, Array.replicate_succ, Array.replicate_zero, List.push_toArray, List.append_toArray, List.nil_append, List.cons_append]
  gi_wp2
  go_ret
  exact ⟨rfl, rfl⟩

theorem FrW.grow {bL : Nat} {w W : World} (hb : Below w.heap.size w W) (hl : bL < w.heap.size) {k : Nat} (h : FrW bL w k) : FrW bL W k := by
  obtain ⟨cs, t, hk⟩ := h.cs
  have hc := cell_same (hb.block bL hl) 0
  exact ⟨⟨cs, t, (hb.block k h.lt).trans hk⟩, h.ne, fun v hv => h.nr v (hc ▸ hv)⟩
theorem BoxSl.grow {bL : Nat} {w W : World} (hb : Below w.heap.size w W) (hl : bL < w.heap.size) {B : Nat} {t : TypeId} {c : List Buck} (h : BoxSl bL w B t c) : BoxSl bL W B t c := h.keep fun k hk => ⟨hb.block k hk.lt, hk.grow hb hl⟩
theorem GoodW.grow {bL : Nat} {w W : World} (hb : Below w.heap.size w W) (hl : bL < w.heap.size) (h : GoodW bL w) : GoodW bL W := fun v hv g hg => Nat.lt_of_lt_of_le (h v ((cell_same (hb.block bL hl) 0) ▸ hv) g hg) hb.size

/-- The function value of curve.pairs hands on each bucket of a with each of b. -/
theorem pairs_stops (F : Fence) (n : Nat) (h7 : F.fn 98) (hro : F.round = none) (hn : 1 ≤ n) (Ba Bb n₀ bL : Nat) (a b : List Buck) (ha : a.length ≤ 1048576) (hb : b.length ≤ 1048576) (w : World) (hl : bL < w.heap.size) (hg : GoodW bL w)
    (hA : BoxSl bL w Ba 23 a) (hB : BoxSl bL w Bb 23 b) :
    SeqStopsK F n Tryz.prog 98 #[.pointer (some ⟨Ba, 0, none⟩), .pointer (some ⟨Bb, 0, none⟩)] (fun x : Buck × Buck => #[.agg x.1.cells.toArray, .agg x.2.cells.toArray]) (Kp2 n₀ bL) (fun ys => ys = pairsL a b) (fun pre => pre <+: pairsL a b) (pairsL a b).length w := fun l J Jx W hW hJ _ hY h0 =>
  pairs1_in F n h7 hro hn l Ba Bb n₀ bL a b ha hb J Jx (fun pre W1 o hj => hJ pre W1 _ none hj (World.grownBy_alloc W1 o none) (fun r e => by cases e)) hY W (hg.grow hW hl) (Nat.lt_of_lt_of_le hl hW.size) (hA.grow hW hl) (hB.grow hW hl) h0
end Go.Proofs.YtbncfknjgldcbaaGreat
/- curve.Sum. -/
namespace Go.Proofs.YtbncfknjgldcbaaGreat
open Go.RowKit Go.Joins Go.Shelf Go.Sort Num
attribute [local go_sem] Oper.semAt_some

def oka (p : Buck × Buck) : Prop := Fit (p.1.b + p.2.b) ∧ Fit (p.1.r + p.2.r)
instance (p : Buck × Buck) : Decidable (oka p) := inferInstanceAs (Decidable (_ ∧ _))
def addB (p : Buck × Buck) : Buck := mkBuck (p.1.b + p.2.b) (p.1.r + p.2.r)
theorem addV_ok {p : Buck × Buck} (h : oka p) : addV p.1.b p.1.r p.2.b p.2.r = (((p.1.b + p.2.b).num, ((p.1.b + p.2.b).den : Int), (p.1.r + p.2.r).num, ((p.1.r + p.2.r).den : Int)), 0) := if_pos h
theorem addV_no {p : Buck × Buck} (h : ¬ oka p) : addV p.1.b p.1.r p.2.b p.2.r = ((0, 0, 0, 0), 3) := if_neg h
theorem add_h {p : Buck × Buck} (h : oka p) : (Fit (p.1.b + p.2.b) ∧ Fit (p.1.r + p.2.r)) ∧ (0 ≤ p.1.b + p.2.b ∧ 0 ≤ p.1.r + p.2.r) := ⟨h, Rat.add_nonneg p.1.pb p.2.pb, Rat.add_nonneg p.1.pr p.2.pr⟩
theorem add_cells {p : Buck × Buck} (h : oka p) : (addB p).cells = [.int .i64 (p.1.b + p.2.b).num, .int .i64 (p.1.b + p.2.b).den, .int .i64 (p.1.r + p.2.r).num, .int .i64 (p.1.r + p.2.r).den] := by
  unfold addB Buck.cells
  rw [mk_b (add_h h), mk_r (add_h h)]

def SumPost (na nb : List Buck) (w : World) (e : Ending) (w' : World) : Prop :=
  (32 < na.length * nb.length → e = .returned (.tuple #[.slice none 0 0, .int .i64 5])) ∧
  (na.length * nb.length ≤ 32 → (¬ ∀ p ∈ pairsL na nb, oka p) → e = .returned (.tuple #[.slice none 0 0, .int .i64 3])) ∧
  (na.length * nb.length ≤ 32 → (∀ p ∈ pairsL na nb, oka p) → ∃ v, e = .returned (.tuple #[v, .int .i64 0]) ∧ Own4 w.heap.size w' v (normL ((pairsL na nb).map addB))) ∧ Below w.heap.size w w'

theorem BoxN.far {W : World} {B : Nat} {t : TypeId} {cs : Array Value} (h : BoxN W B t cs) {p : Addr} (hp : B ≠ p.block) (u : Value) : BoxN (W.setCell p u) B t cs := (Below.heap_setCell W p u B hp).trans h
/-- The two results in their boxes. -/
theorem res2 {W : World} {b4 b5 : Nat} {t4 t5 : TypeId} {x y : Value} (v e : Value) (h4 : BoxN W b4 t4 #[x]) (h5 : BoxN W b5 t5 #[y]) (hne : b4 ≠ b5) :
    BoxN ((W.setCell ⟨b4, 0, none⟩ v).setCell ⟨b5, 0, none⟩ e) b4 t4 #[v] ∧ BoxN ((W.setCell ⟨b4, 0, none⟩ v).setCell ⟨b5, 0, none⟩ e) b5 t5 #[e] :=
  ⟨(h4.set1 0 v).far (p := ⟨b5, 0, none⟩) hne e, ((h5.far (p := ⟨b4, 0, none⟩) (Ne.symm hne) v).set1 0 e)⟩

theorem sum_bad (A B : Option Addr) (ca cb : Nat) (a b : List Bk) (hla : a.length ≤ 1048576) (hba : ∀ x ∈ a, x.bd64) (hlb : b.length ≤ 1048576) (hbb : ∀ x ∈ b, x.bd64) (w : World) (hIa : SlR w.heap.size w (.slice A a.length ca) a) (hIb : SlR w.heap.size w (.slice B b.length cb) b) (hbad : (valC a && valC b) = false) :
    CallsIn Fence.wide 9 Tryz.prog 17 #[.slice A a.length ca, .slice B b.length cb] w fun e w' => e = .returned (.tuple #[.slice none 0 0, .int .i64 2]) ∧ Below w.heap.size w w' := by
  have hro : Fence.wide.round = none := rfl
  have hB0 := ((Below.refl w.heap.size w).alloc (Nat.le_refl _) (.cells #[.slice none 0 0] 23)).alloc (by simp) (.cells #[.int .i64 0] 27)
  have HV := callsIn_wide (n := 8).2 (valid_c A ca a hla hba _ ((hIa.below hB0 (Nat.le_refl _)).more hB0.size))
  have HT : Hid (∀ W : World, Below w.heap.size w W → _) := fun W hb => callsIn_wide (n := 8).2 (valid_c B cb b hlb hbb W ((hIb.below hb (Nat.le_refl _)).more hb.size))
  clear hIa hIb hba hbb
  generalize valC a = vc at hbad HV
  generalize valC b = va at hbad HT
  refine callsIn_of_wp_marks Tryz.func17 rfl trivial ?_ hro
  simp only [Tryz.ntmps17, List.size_toArray, List.length_cons, List.length_nil, Nat.reduceAdd, Nat.reduceSub, Array.replicate_succ, Array.replicate_zero, List.push_toArray, List.append_toArray, List.nil_append, List.cons_append]
  cases vc
  · gi_wp2_with fail
    refine ⟨trivial, ?_⟩
    (with_reducible refine HV.mono ?_); rintro e w1 ⟨rfl, hb1⟩
    obtain ⟨hc, hf⟩ := bcell hb1
    have hz := hb1.size
    simp only [World.size_alloc] at hc hf hz
    have hB := hB0.trans (hb1.mono hB0.size)
    have b4 := ((BoxN.new w 23 #[.slice none 0 0]).alloc (.cells #[.int .i64 0] 27)).below hb1 (by simp; omega)
    have b5 := (BoxN.new (w.alloc (.cells #[.slice none 0 0] 23)) 27 #[.int .i64 0]).below hb1 (by simp)
    rw [World.size_alloc] at b5
    gi_wp2
    refine ⟨trivial, ?_⟩
    gi_wp2
    obtain ⟨q4, q5⟩ := res2 (.slice none 0 0) (.int .i64 2) b4 b5 (by omega)
    have r4 := q4.cell 0
    have r5 := q5.cell 0
    refine ⟨.tuple #[.slice none 0 0, .int .i64 2], by simp [results, Tryz.f17, go_sem, r4, r5], rfl, ?_⟩
    (have hBs := hB.size; (try simp only [World.size_alloc] at hBs); repeat' (first | (with_reducible exact hB) | (with_reducible exact hBs) | (with_reducible refine Below.drew ?_) | (with_reducible refine below_drewN ?_ _) | (with_reducible refine Below.setCell ?_ ?_ _) | (with_reducible refine Below.alloc ?_ ?_ _) | go_size | omega | (simp; omega)))
  · obtain rfl : va = false := by simpa using hbad
    gi_wp2_with fail
    refine ⟨trivial, ?_⟩
    (with_reducible refine HV.mono ?_); rintro e w1 ⟨rfl, hb1⟩
    have hB1 := hB0.trans (hb1.mono hB0.size)
    have HT1 := HT.out _ hB1
    gi_wp2_with fail
    refine ⟨trivial, ?_⟩
    (with_reducible refine HT1.mono ?_); rintro e w2 ⟨rfl, hb2⟩
    replace hb2 := bnext hb1 hb2
    obtain ⟨hc, hf⟩ := bcell hb2
    have hz := hb2.size
    simp only [World.size_alloc] at hc hf hz
    have hB := hB0.trans (hb2.mono hB0.size)
    have b4 := ((BoxN.new w 23 #[.slice none 0 0]).alloc (.cells #[.int .i64 0] 27)).below hb2 (by simp; omega)
    have b5 := (BoxN.new (w.alloc (.cells #[.slice none 0 0] 23)) 27 #[.int .i64 0]).below hb2 (by simp)
    rw [World.size_alloc] at b5
    clear hb1 HT1
    gi_wp2
    obtain ⟨q4, q5⟩ := res2 (.slice none 0 0) (.int .i64 2) b4 b5 (by omega)
    have r4 := q4.cell 0
    have r5 := q5.cell 0
    refine ⟨.tuple #[.slice none 0 0, .int .i64 2], by simp [results, Tryz.f17, go_sem, r4, r5], rfl, ?_⟩
    (have hBs := hB.size; (try simp only [World.size_alloc] at hBs); repeat' (first | (with_reducible exact hB) | (with_reducible exact hBs) | (with_reducible refine Below.drew ?_) | (with_reducible refine below_drewN ?_ _) | (with_reducible refine Below.setCell ?_ ?_ _) | (with_reducible refine Below.alloc ?_ ?_ _) | go_size | omega | (simp; omega)))
end Go.Proofs.YtbncfknjgldcbaaGreat
/- curve.Sum at two curves. -/
namespace Go.Proofs.YtbncfknjgldcbaaGreat
open Go.RowKit Go.Joins Go.Shelf Go.Sort Num
attribute [local go_sem] Oper.semAt_some

/-- append to a slice of the call's own, within a fence, and where the new row lies. -/
theorem wpListIn_append_at {F : Fence} {n : Nat} {P : Program} (w : World) {ops : Array Oper} {rest : List Oper} {o : Oper} {a : Act} {Q : Exit → Act → World → Prop}
    (hg : o.guard = none) (s x : Operand) (t : TypeId) (hop : o.op = Op.call { callee := Callee.builtin Builtin.append, args := #[s, x], argTypes := #[t, t] })
    (base : Nat) (e : TypeId) (i : TypeInfo) (z : Value) (size bytes : Nat) (h1 : P.underlying t = some (.slice e)) (h2 : P.info? e = some i) (h3 : i.zero = some z) (h4 : i.size = size) (h5 : i.bytes = bytes) (h6 : z.cells.size = size) (h7 : 0 < size)
    (v : Value) (k : Nat) (xs : List Value) (hs : a.eval s = v) (hown : w.ownsRow base e size v k xs) (ad : Addr) (m c : Nat) (news : List Value) (hx : a.eval x = .slice (some ad) m c) (hn : news.length = m * size)
    (hc : ∀ j u, news[j]? = some u → w.cell? (ad.add j) = some u) (h1c : ∀ u ∈ news, u.oneCell' = true) (b1 : k + m ≤ maxLen) (b2 : (k + m) * bytes ≤ 140737488355328) (b3 : base ≤ w.heap.size)
    (hK : ∀ v' w', w'.ownsRow base e size v' (k + m) (xs ++ news) → w.grownBy w' v.ownBlock → (v'.ownBlock = v.ownBlock ∨ v'.ownBlock = some w.heap.size) → wpListIn F n P ops Q rest (a.put o.dst v') w') :
    wpListIn F n P ops Q (o :: rest) a w := by
  refine wpListIn_plain hg fun K hK' => ?_
  obtain ⟨v', w', hrun, r1, r2, _, r3⟩ := run_append_own_at (P := P) w base t o.type e i z size bytes h1 h2 h3 h4 h5 h6 h7 v k xs hown ad m c news hn hc h1c b1 b2 b3
  unfold Oper.wpIn
  refine ⟨?_, ?_⟩
  · simp [Oper.about, hop, resolve, Target.leads, Sem.run_pure]
  · rw [Oper.semAt_plain F _ _ (by rw [hop]; intro c hc'; cases hc')]
    simp [execOp, hop, resolve, invoke, builtin, hs, hx, hrun, Result.andThen]
    exact hK' _ _ (hK v' w' r1 r2 r3)

/-- The append and the store of its result into the box leave the blocks alone that are neither box nor row. -/
theorem Kf.app {bL : Nat} {W W1 : World} {t : TypeId} {v v' : Value} {base : Nat} {e : TypeId} {size k m : Nat} {xs ys : List Value} (hv : Boxed W bL t v) (hte : t ≠ e) (hrow : W.ownsRow base e size v k xs) (hown : W1.ownsRow base e size v' m ys)
    (hg : W.grownBy W1 v.ownBlock) (hat : v'.ownBlock = v.ownBlock ∨ v'.ownBlock = some W.heap.size) : Kf bL W (W1.setCell ⟨bL, 0, none⟩ v') := fun hgd => by
  have hb1 : Boxed W1 bL t v := hv.kept hg (hv.not_row hte hrow)
  have hb2 : Boxed (W1.setCell ⟨bL, 0, none⟩ v') bL t v' := hb1.set v'
  have hsz : (W1.setCell ⟨bL, 0, none⟩ v').heap.size = W1.heap.size := by simp [World.setCell]
  refine ⟨fun u hu g hgu => ?_, fun i hi => ?_⟩
  · rw [hb2.cell] at hu
    cases hu
    rw [hsz]
    rcases own_block hown with h | ⟨g', h1, _, h2⟩
    · rw [h] at hgu; cases hgu
    · rw [h1] at hgu; cases hgu; exact h2
  · have hne := hi.nr v hv.cell
    have e1 : W1.heap[i]? = W.heap[i]? := hg.block i hi.lt (fun h => hne h.symm)
    have e2 : (W1.setCell ⟨bL, 0, none⟩ v').heap[i]? = W.heap[i]? := (Below.heap_setCell W1 ⟨bL, 0, none⟩ v' i hi.ne).trans e1
    obtain ⟨cs, t', hcs⟩ := hi.cs
    refine ⟨e2, ⟨cs, t', e2.trans hcs⟩, hi.ne, fun u hu h => ?_⟩
    rw [hb2.cell] at hu
    cases hu
    rcases hat with h' | h'
    · exact hne (h' ▸ h)
    · rw [h'] at h; cases h; exact absurd hi.lt (Nat.lt_irrefl _)
theorem keepsFrom_below {B : Nat} {W W' : World} (h : Below W.heap.size W W') : KeepsFrom B W W' := ⟨h.size, fun k _ _ hk _ => (h.block k (Array.getElem?_eq_some_iff.1 hk).1).trans hk⟩
theorem pairs_length (na nb : List Buck) : (pairsL na nb).length = na.length * nb.length := by
  unfold pairsL
  induction na with
  | nil => simp
  | cons x l ih => rw [List.flatMap_cons, List.length_append, ih, List.length_map, List.length_cons, Nat.succ_mul, Nat.add_comm]
theorem fr_nil {W : World} {bL k : Nat} {t t' : TypeId} {cs : Array Value} (hb : Boxed W bL t (.slice none 0 0)) (hk : W.heap[k]? = some (.cells cs t' (0, 0))) (ne : k ≠ bL) : FrW bL W k := by
  refine ⟨⟨cs, t', hk⟩, ne, fun v hv h => ?_⟩
  rw [hb.cell] at hv
  cases hv
  cases h
theorem good_nil {W : World} {bL : Nat} {t : TypeId} (hb : Boxed W bL t (.slice none 0 0)) : GoodW bL W := fun v hv g hg => by
  rw [hb.cell] at hv
  cases hv
  cases hg
theorem Own4.frW {base : Nat} {W : World} {v : Value} {c : List Buck} (h : Own4 base W v c) : ∃ A cap, v = .slice A c.length cap ∧ (c ≠ [] → ∃ g cs t, A = some ⟨g, 0, none⟩ ∧ W.heap[g]? = some (.cells cs t (0, 0)) ∧ Row W g 0 c) := by
  by_cases hc : c = []
  · subst hc
    exact ⟨none, 0, h.2.2 rfl, fun h => absurd rfl h⟩
  · obtain ⟨g, cap, rfl, hb, hlt⟩ := h.1.form (List.length_pos_iff.2 hc)
    rcases h.1.2 with ⟨e, _⟩ | ⟨g', cap', cur, e, _, e3, _⟩
    · cases e
    · simp only [Value.slice.injEq, Option.some.injEq, Addr.mk.injEq, and_true, true_and] at e
      obtain ⟨rfl, rfl⟩ := e
      exact ⟨_, cap, rfl, fun _ => ⟨g, cur, _, rfl, e3, row_of_holdsK (holdsK_of_own h.1)⟩⟩

theorem Own4.same {base : Nat} {W W' : World} {v : Value} {c : List Buck} (h : Own4 base W v c) (hs : ∀ g, base ≤ g → W'.heap[g]? = W.heap[g]?) : Own4 base W' v c := by
  refine ⟨⟨h.1.1, ?_⟩, h.2⟩
  rcases h.1.2 with h2 | ⟨g, cap, cur, e1, e2, e3, e4⟩
  · exact .inl h2
  · exact .inr ⟨g, cap, cur, e1, e2, (hs g e2).trans e3, e4⟩

set_option maxRecDepth 100000 in
set_option maxHeartbeats 8000000 in
theorem sum_in (A B : Option Addr) (ca cb : Nat) (a b : List Buck) (ha1 : 1 ≤ a.length) (ha2 : a.length ≤ 32) (hb1 : 1 ≤ b.length) (hb2 : b.length ≤ 32) (w : World) (hIa : Sl w.heap.size w (.slice A a.length ca) a) (hIb : Sl w.heap.size w (.slice B b.length cb) b) :
    CallsIn Fence.wide 9 Tryz.prog 17 #[.slice A a.length ca, .slice B b.length cb] w (SumPost (normL a) (normL b) w) := by
  have hro : Fence.wide.round = none := rfl
  obtain ⟨i0, hi, hz0, hz1, hz2⟩ := info_parts infoB
  have hB0 := ((Below.refl w.heap.size w).alloc (Nat.le_refl _) (.cells #[.slice none 0 0] 23)).alloc (by simp) (.cells #[.int .i64 0] 27)
  have HV := callsIn_wide (n := 8).2 (valid_ok ha1 ha2 ((hIa.below hB0 (Nat.le_refl _)).more hB0.size))
  have HT : Hid (∀ W : World, Below w.heap.size w W → _) := fun W hb => callsIn_wide (n := 8).2 (valid_ok hb1 hb2 ((hIb.below hb (Nat.le_refl _)).more hb.size))
  have HA : Hid (∀ W : World, Below w.heap.size w W → CallsIn Fence.wide 8 Tryz.prog 57 #[.slice A a.length ca] W fun e w' => ∃ v, e = .returned v ∧ Own4 W.heap.size w' v (normL a) ∧ Below W.heap.size W w') := fun W hb => callsIn_wide.2 ((normal_any A ca a (by omega) W ((hIa.below hb (Nat.le_refl _)).more hb.size)).mono fun e w' ⟨v, h1, h2, h3, h4⟩ => ⟨v, h1, ⟨h2, h3⟩, h4⟩)
  have HB : Hid (∀ W : World, Below w.heap.size w W → CallsIn Fence.wide 8 Tryz.prog 57 #[.slice B b.length cb] W fun e w' => ∃ v, e = .returned v ∧ Own4 W.heap.size w' v (normL b) ∧ Below W.heap.size W w') := fun W hb => callsIn_wide.2 ((normal_any B cb b (by omega) W ((hIb.below hb (Nat.le_refl _)).more hb.size)).mono fun e w' ⟨v, h1, h2, h3, h4⟩ => ⟨v, h1, ⟨h2, h3⟩, h4⟩)
  have HP : Hid (∀ (A B : Option Addr) (la ca lb cb : Nat) (W : World), _) := fun A B la ca lb cb W => pairs_in Fence.wide 8 trivial rfl A B la ca lb cb W
  have hnl : (normL a).length ≤ 32 := by have := foldl_keep_length (sortL a) []; rw [sortL_length] at this; simp only [List.length_nil] at this; unfold normL; omega
  have hml : (normL b).length ≤ 32 := by have := foldl_keep_length (sortL b) []; rw [sortL_length] at this; simp only [List.length_nil] at this; unfold normL; omega
  clear hIa hIb
  refine callsIn_of_wp_marks Tryz.func17 rfl trivial ?_ hro
  simp only [Tryz.ntmps17, List.size_toArray, List.length_cons, List.length_nil, Nat.reduceAdd, Nat.reduceSub, Array.replicate_succ, Array.replicate_zero, List.push_toArray, List.append_toArray, List.nil_append, List.cons_append]
  gi_wp2_with fail
  refine ⟨trivial, ?_⟩
  (with_reducible refine HV.mono ?_); rintro e w1 ⟨rfl, hb1⟩
  have hB1 := hB0.trans (hb1.mono hB0.size)
  have HT1 := HT.out _ hB1
  clear HV HT
  gi_wp2_with fail
  refine ⟨trivial, ?_⟩
  (with_reducible refine HT1.mono ?_); rintro e w2 ⟨rfl, hb2⟩
  have hB2 := hB1.trans (hb2.mono hB1.size)
  replace hb2 := bnext hb1 hb2
  have b4 := ((BoxN.new w 23 #[.slice none 0 0]).alloc (.cells #[.int .i64 0] 27)).below hb2 (by simp; omega)
  have b5 := (BoxN.new (w.alloc (.cells #[.slice none 0 0] 23)) 27 #[.int .i64 0]).below hb2 (by simp)
  rw [World.size_alloc] at b5
  have HA1 := HA.out _ hB2
  clear hb1 hb2 HT1 hB1 HA hB0
  gi_wp2_with fail
  refine ⟨trivial, ?_⟩
  (with_reducible refine HA1.mono ?_); rintro e w3 ⟨va, rfl, hoa, hb3⟩
  replace b4 := b4.below hb3 b4.lt
  replace b5 := b5.below hb3 b5.lt
  have hB3 := hB2.trans (hb3.mono hB2.size)
  have HB1 := HB.out _ hB3
  clear HA1 HB
  gi_wp2_with fail
  refine ⟨trivial, ?_⟩
  (with_reducible refine HB1.mono ?_); rintro e w4 ⟨vb, rfl, hob, hb4⟩
  replace b4 := b4.below hb4 b4.lt
  replace b5 := b5.below hb4 b5.lt
  have hB4 := hB3.trans (hb4.mono hB3.size)
  replace hoa := hoa.below hb4
  clear HB1 hb3 hb4 hB2 hB3
  obtain ⟨Aa, cca, rfl, hra⟩ := hoa.frW
  obtain ⟨Ab, ccb, rfl, hrb⟩ := hob.frW
  clear hoa hob
  generalize normL a = na at *
  generalize normL b = nb at *
  have hpl := Lib.hid (pairs_length na nb)
  by_cases hn : 32 < na.length * nb.length
  · have hdec : decide ((32 : Int) < ↑na.length * ↑nb.length) = true := by
      rw [decide_eq_true_iff, ← Int.natCast_mul]; omega
    have hm1 : ((na.length : Int) * nb.length) ≤ 1024 := by
      have := Nat.mul_le_mul hnl hml
      rw [← Int.natCast_mul]; omega
    have hm0 : 0 ≤ ((na.length : Int) * nb.length) := by rw [← Int.natCast_mul]; omega
    have c4 : w4.cell? ⟨w.heap.size, 0, none⟩ = some (.slice none 0 0) := b4.cell 0
    have c5 : w4.cell? ⟨w.heap.size + 1, 0, none⟩ = some (.int .i64 0) := b5.cell 0
    have f4 := b4.frozen 0
    have f5 := b5.frozen 0
    have k4 := b4.lt
    have k5 := b5.lt
    obtain ⟨q4, q5⟩ := res2 (.slice none 0 0) (.int .i64 5) b4 b5 (by omega)
    have r4 := Lib.hid (q4.cell 0)
    have r5 := Lib.hid (q5.cell 0)
    have hB := hB4
    clear q4 q5 b4 b5 hpl hra hrb HP hB4
    gi_wp2
    refine ⟨.tuple #[.slice none 0 0, .int .i64 5], by simp [results, Tryz.f17, go_sem, r4.out, r5.out], fun _ => rfl, fun h => absurd hn (by omega), fun h => absurd hn (by omega), ?_⟩
    (have hBs := hB.size; (try simp only [World.size_alloc] at hBs); repeat' (first | (with_reducible exact hB) | (with_reducible exact hBs) | (with_reducible refine Below.drew ?_) | (with_reducible refine below_drewN ?_ _) | (with_reducible refine Below.setCell ?_ ?_ _) | (with_reducible refine Below.alloc ?_ ?_ _) | go_size | omega | (simp; omega)))
  · have hdec : decide ((32 : Int) < ↑na.length * ↑nb.length) = false := by
      rw [decide_eq_false_iff_not, ← Int.natCast_mul]; omega
    have HP1 := HP.out Aa Ab na.length cca nb.length ccb (w4.alloc (.cells #[.slice none 0 0] 22))
    rw [World.size_alloc] at HP1
    gi_wp2_with fail
    refine ⟨trivial, ?_⟩
    (with_reducible refine HP1.mono ?_); rintro e w5 ⟨rfl, rfl⟩
    have bO := ((Boxed.new w4 22 (.slice none 0 0)).alloc (.cells #[.slice Aa na.length cca] 23)).alloc (.cells #[.slice Ab nb.length ccb] 23)
    have hW0 : Below w4.heap.size w4 (((w4.alloc (.cells #[.slice none 0 0] 22)).alloc (.cells #[.slice Aa na.length cca] 23)).alloc (.cells #[.slice Ab nb.length ccb] 23)) := (((Below.refl _ _).alloc (Nat.le_refl _) _).alloc (by simp) _).alloc (by simp; omega) _
    have bA : BoxN (((w4.alloc (.cells #[.slice none 0 0] 22)).alloc (.cells #[.slice Aa na.length cca] 23)).alloc (.cells #[.slice Ab nb.length ccb] 23)) (w4.heap.size + 1) 23 #[.slice Aa na.length cca] := by
      have := (BoxN.new (w4.alloc (.cells #[.slice none 0 0] 22)) 23 #[.slice Aa na.length cca]).alloc (.cells #[.slice Ab nb.length ccb] 23)
      rwa [World.size_alloc] at this
    have bB : BoxN (((w4.alloc (.cells #[.slice none 0 0] 22)).alloc (.cells #[.slice Aa na.length cca] 23)).alloc (.cells #[.slice Ab nb.length ccb] 23)) (w4.heap.size + 1 + 1) 23 #[.slice Ab nb.length ccb] := by
      have := BoxN.new ((w4.alloc (.cells #[.slice none 0 0] 22)).alloc (.cells #[.slice Aa na.length cca] 23)) 23 #[.slice Ab nb.length ccb]
      rwa [World.size_alloc, World.size_alloc] at this
    have hsz : (((w4.alloc (.cells #[.slice none 0 0] 22)).alloc (.cells #[.slice Aa na.length cca] 23)).alloc (.cells #[.slice Ab nb.length ccb] 23)).heap.size = w4.heap.size + 3 := by simp
    generalize ((w4.alloc (.cells #[.slice none 0 0] 22)).alloc (.cells #[.slice Aa na.length cca] 23)).alloc (.cells #[.slice Ab nb.length ccb] 23) = W0 at bO hW0 bA bB hsz ⊢
    have sA : BoxSl w4.heap.size W0 (w4.heap.size + 1) 23 na := ⟨fr_nil bO bA (by omega), Aa, cca, bA, fun h => by
      obtain ⟨g, cs, t, e, hg, hr⟩ := hra h
      have hgl := (Array.getElem?_eq_some_iff.1 hg).1
      exact ⟨g, 0, e, fr_nil bO ((hW0.block g hgl).trans hg) (by omega), hr.same (hW0.block g hgl)⟩⟩
    have sB : BoxSl w4.heap.size W0 (w4.heap.size + 1 + 1) 23 nb := ⟨fr_nil bO bB (by omega), Ab, ccb, bB, fun h => by
      obtain ⟨g, cs, t, e, hg, hr⟩ := hrb h
      have hgl := (Array.getElem?_eq_some_iff.1 hg).1
      exact ⟨g, 0, e, fr_nil bO ((hW0.block g hgl).trans hg) (by omega), hr.same (hW0.block g hgl)⟩⟩
    have hgd := good_nil bO
    clear bA bB hra hrb
    have b5l : w.heap.size + 1 < w4.heap.size := b5.lt
    replace b4 := b4.below hW0 b4.lt
    replace b5 := b5.below hW0 b5.lt
    have hB0 := hB4.trans (hW0.mono hB4.size)
    have hn' : na.length * nb.length ≤ 32 := by omega
    have hpl2 : (pairsL na nb).length ≤ 32 := by rw [hpl.out]; exact hn'
    have HAd : Hid (∀ (p : Buck × Buck) (W : World), CallsIn Fence.wide 6 Tryz.prog 59 #[.agg p.1.cells.toArray, .agg p.2.cells.toArray] W fun e w' => e = .returned (buckV (addV p.1.b p.1.r p.2.b p.2.r)) ∧ Below W.heap.size W w') := fun p W => callsIn_wide.2 (add_b p.1.hb p.1.hr p.2.hb p.2.hr W)
    have bz : w.heap.size ≤ w4.heap.size := hB4.size
    gi_wp2
    refine wpIn_rangeFunc_ownH hro (by decide) (gf := 98) (lb := #[.pointer (some ⟨w4.heap.size + 1, 0, none⟩), .pointer (some ⟨w4.heap.size + 1 + 1, 0, none⟩)]) rfl trivial (enters_of Tryz.func98 (by kernel_rfl) rfl)
      (pairs_stops Fence.wide 8 trivial rfl (by decide) (w4.heap.size + 1) (w4.heap.size + 1 + 1) w4.heap.size w4.heap.size na nb (by omega) (by omega) W0 (by omega) hgd sA sB) Kp2.t (Kp2.b (by omega) (by omega)) (Below.refl _ _) (fun _ => rfl)
      (fun pre W => ((∃ v, Boxed W w4.heap.size 22 v ∧ W.ownsRow w4.heap.size 80 4 v pre.length (cellsOf (pre.map addB)) ∧ (v = .slice none 0 0 ↔ pre = [])) ∧ (∀ p ∈ pre, oka p)) ∧ Below w4.heap.size W0 W)
      (fun c pre W => ((c = .ret ∧ ∃ p ∈ pre, ¬ oka p) ∧ (BoxN W w.heap.size 23 #[.slice none 0 0] ∧ BoxN W (w.heap.size + 1) 27 #[.int .i64 3])) ∧ Below w.heap.size w W)
      (OwnFrom.and (OwnFrom.and (Own.from (holdsRow_own w4.heap.size w4.heap.size 22 80 4 (fun pre : List (Buck × Buck) => pre.length) (fun pre => cellsOf (pre.map addB)) (fun pre v => v = .slice none 0 0 ↔ pre = [])) _) (ownFrom_pure _ _)) (ownFrom_below (by omega) (by omega)))
      (fun c => OwnFrom.and (OwnFrom.and (ownFrom_pure _ _) (OwnFrom.and (Own.from (boxN_own _ _ (fun _ : List (Buck × Buck) => #[.slice none 0 0])) _) (Own.from (boxN_own _ _ (fun _ : List (Buck × Buck) => #[.int .i64 3])) _))) (ownFrom_below (Nat.le_refl _) (by omega)))
      ⟨⟨⟨_, bO, World.ownsRow_nil _ _ _ _, by simp⟩, by simp⟩, Below.refl _ _⟩
      (fun p a' W => ∃ Bx By, (w4.heap.size < Bx ∧ w4.heap.size < By) ∧ (BoxN W Bx 80 p.1.cells.toArray ∧ BoxN W By 80 p.2.cells.toArray) ∧ a' = { tmps := #[.slice Aa na.length cca, .slice Ab nb.length ccb, undef, undef, .pointer (some ⟨w.heap.size, 0, none⟩), .pointer (some ⟨w.heap.size + 1, 0, none⟩), .pointer (some ⟨w4.heap.size, 0, none⟩), .pointer (some ⟨Bx, 0, none⟩), .pointer (some ⟨By, 0, none⟩), undef, undef, .slice A a.length ca, .bool true, .bool false, .bool false, .slice B b.length cb, .bool true, .bool false, .bool false, .slice A a.length ca, .slice Aa na.length cca, .slice B b.length cb, .slice Ab nb.length ccb, .slice Aa na.length cca, .int .i64 na.length, .slice Ab nb.length ccb, .int .i64 nb.length, .int .i64 (↑na.length * ↑nb.length), .bool false, .slice Aa na.length cca, .slice Ab nb.length ccb, .func (.func 98) #[] #[.pointer (some ⟨w4.heap.size + 1, 0, none⟩), .pointer (some ⟨w4.heap.size + 1 + 1, 0, none⟩)], .agg p.1.cells.toArray, .agg p.2.cells.toArray, undef, undef, undef, undef, undef, undef, undef, undef, undef, undef, undef, undef, undef, undef, undef], defers := [] })
      (fun p a' _ X Y row hs hg hr => by obtain ⟨Bx, By, h1, ⟨h2, h3⟩, h4⟩ := hs; exact ⟨Bx, By, h1, ⟨boxN_own Bx 80 (fun (_ : Unit) => p.1.cells.toArray) () X Y row h2 hg (fun r e => (hr r e).2), boxN_own By 80 (fun (_ : Unit) => p.2.cells.toArray) () X Y row h3 hg (fun r e => (hr r e).2)⟩, h4⟩)
      ?assign ?body ?done ?stop
    case assign =>
      rintro l pre p W K ⟨⟨⟨v, hv, hrow, hnil⟩, hok⟩, hB⟩ hK
      simp only [Buck.cells] at hK ⊢
      gi_wp2
      have hx1 : Below W.heap.size W ((W.alloc (.cells #[.int .i64 p.1.b.num, .int .i64 p.1.b.den, .int .i64 p.1.r.num, .int .i64 p.1.r.den] 80)).alloc (.cells #[.int .i64 p.2.b.num, .int .i64 p.2.b.den, .int .i64 p.2.r.num, .int .i64 p.2.r.den] 80)) := ((Below.refl _ _).alloc (Nat.le_refl _) _).alloc (by simp) _
      have hWz := hB.size
      have hvl := hv.lt
      exact hK _ _ (keepsFrom_below hx1) ⟨hx1.mono (by omega), Kf.below hx1 hv.lt⟩ ⟨⟨⟨v, (hv.alloc _).alloc _, (hrow.alloc _).alloc _, hnil⟩, hok⟩, hB.trans (hx1.mono (by omega))⟩
        ⟨W.heap.size, W.heap.size + 1, ⟨by omega, by omega⟩, ⟨(BoxN.new W _ _).alloc _, by have := BoxN.new (W.alloc (.cells #[.int .i64 p.1.b.num, .int .i64 p.1.b.den, .int .i64 p.1.r.num, .int .i64 p.1.r.den] 80)) 80 #[.int .i64 p.2.b.num, .int .i64 p.2.b.den, .int .i64 p.2.r.num, .int .i64 p.2.r.den]; rwa [World.size_alloc] at this⟩, rfl⟩
    case body =>
      rintro l pre p a' W hl ⟨r, hr⟩ ⟨⟨⟨v, hv, hrow, hnil⟩, hok⟩, hB⟩ ⟨Bx, By, ⟨hBx, hBy⟩, ⟨bX, bY⟩, rfl⟩ hlt
      have hWz := hB.size
      have hvl := hv.lt
      have x0 : W.cell? ⟨Bx, 0, none⟩ = some (.int .i64 p.1.b.num) := bX.cell 0
      have x1 : W.cell? ⟨Bx, 1, none⟩ = some (.int .i64 p.1.b.den) := bX.cell 1
      have x2 : W.cell? ⟨Bx, 2, none⟩ = some (.int .i64 p.1.r.num) := bX.cell 2
      have x3 : W.cell? ⟨Bx, 3, none⟩ = some (.int .i64 p.1.r.den) := bX.cell 3
      have y0 : W.cell? ⟨By, 0, none⟩ = some (.int .i64 p.2.b.num) := bY.cell 0
      have y1 : W.cell? ⟨By, 1, none⟩ = some (.int .i64 p.2.b.den) := bY.cell 1
      have y2 : W.cell? ⟨By, 2, none⟩ = some (.int .i64 p.2.r.num) := bY.cell 2
      have y3 : W.cell? ⟨By, 3, none⟩ = some (.int .i64 p.2.r.den) := bY.cell 3
      have hc := hv.cell
      have HAp := HAd.out p
      by_cases hka : oka p
      · rw [addV_ok hka] at HAp
        have hsn := cellsOf_snoc (pre.map addB) (addB p)
        rw [add_cells hka] at hsn
        generalize (p.1.b + p.2.b).num = sn at HAp hsn
        generalize ((p.1.b + p.2.b).den : Int) = sd at HAp hsn
        generalize (p.1.r + p.2.r).num = tn at HAp hsn
        generalize ((p.1.r + p.2.r).den : Int) = td at HAp hsn
        have HAp := Lib.hid HAp
        have hSn : Hid (cellsOf ((pre ++ [p]).map addB) = cellsOf (pre.map addB) ++ [.int .i64 sn, .int .i64 sd, .int .i64 tn, .int .i64 td]) := by unfold Hid; rw [List.map_append]; exact hsn
        have hone : ∀ u ∈ [Value.int .i64 sn, .int .i64 sd, .int .i64 tn, .int .i64 td], u.oneCell' = true := by
          intro u hu
          simp only [List.mem_cons, List.not_mem_nil, or_false] at hu
          rcases hu with rfl | rfl | rfl | rfl <;> rfl
        have hlt2 : pre.length < 32 := by omega
        clear hsn
        simp only [buckV, Buck.cells] at HAp ⊢
        gi_wp2_with fail
        refine ⟨trivial, ?_⟩
        (with_reducible refine (CallsIn.inRound l (HAp.out _)).mono ?_); rintro e w5 ⟨rfl, hb5⟩
        have hz5 := hb5.size
        have hv5 : Boxed w5 w4.heap.size 22 v := (hb5.block _ hv.lt).trans hv
        have ho5 := own_below hrow hb5
        have hc5 : w5.cell? ⟨w4.heap.size, 0, none⟩ = some v := hv5.cell
        have k5v : w4.heap.size < w5.heap.size := hv5.lt
        have hNew : ((w5.alloc (.cells #[.int .i64 sn, .int .i64 sd, .int .i64 tn, .int .i64 td] 80)).alloc (.cells #[.int .i64 sn, .int .i64 sd, .int .i64 tn, .int .i64 td] 80)).heap[w5.heap.size + 1]? = some (.cells #[.int .i64 sn, .int .i64 sd, .int .i64 tn, .int .i64 td] 80 (0, 0)) := by simpa using heap_alloc_new (w5.alloc (.cells #[.int .i64 sn, .int .i64 sd, .int .i64 tn, .int .i64 td] 80)) (.cells #[.int .i64 sn, .int .i64 sd, .int .i64 tn, .int .i64 td] 80)
        have hNews := Lib.hid (World.news_of_block hNew)
        have hrow3 := (ho5.alloc (.cells #[.int .i64 sn, .int .i64 sd, .int .i64 tn, .int .i64 td] 80)).alloc (.cells #[.int .i64 sn, .int .i64 sd, .int .i64 tn, .int .i64 td] 80)
        have hv3 := (hv5.alloc (.cells #[.int .i64 sn, .int .i64 sd, .int .i64 tn, .int .i64 td] 80)).alloc (.cells #[.int .i64 sn, .int .i64 sd, .int .i64 tn, .int .i64 td] 80)
        clear hNew
        gi_wp2_with (gi_at_builtin; refine wpListIn_append_at _ rfl _ _ 22 rfl w4.heap.size 80 i0 _ 4 32 Tryz.underlying22 hi hz0 hz1 hz2 rfl (by decide) _ _ _ rfl hrow3 ⟨w5.heap.size + 1, 0, none⟩ 1 1 [.int .i64 sn, .int .i64 sd, .int .i64 tn, .int .i64 td] rfl rfl hNews.out hone (by unfold maxLen; omega) (by omega) (by simp; omega) ?_; intro v' w6 hown' hgrow hat; obtain ⟨g', cap', rfl⟩ := ownsRow_succ hown'; obtain ⟨hv1, hv2, hr2, hk2, hb2⟩ := (hv5.alloc (.cells #[.int .i64 sn, .int .i64 sd, .int .i64 tn, .int .i64 td] 80)).appended (by decide) (ho5.alloc (.cells #[.int .i64 sn, .int .i64 sd, .int .i64 tn, .int .i64 td] 80)) (by simp; omega) (Nat.le_refl _) hown' hgrow; have hc1 := hv1.cell; have hf1 := hv1.frozen)
        have hBW : Below w4.heap.size W (w6.setCell ⟨w4.heap.size, 0, none⟩ (.slice (some ⟨g', 0, none⟩) (pre.length + 1) cap')) := (hb5.mono (by omega)).trans (((Below.refl _ _).alloc (by omega) _).trans hb2)
        have hAA : Below w5.heap.size w5 ((w5.alloc (.cells #[.int .i64 sn, .int .i64 sd, .int .i64 tn, .int .i64 td] 80)).alloc (.cells #[.int .i64 sn, .int .i64 sd, .int .i64 tn, .int .i64 td] 80)) := ((Below.refl _ _).alloc (Nat.le_refl _) _).alloc (by simp) _
        refine ⟨(keepsFrom_below hb5).trans (((KeepsOthers.alloc _ _).trans hk2).from _), ⟨hBW, (Kf.below hb5 hv.lt).trans ((Kf.below hAA k5v).trans (Kf.app hv3 (by decide) hrow3 hown' hgrow hat))⟩, ⟨⟨_, hv2, ?_, by simp⟩, ?_⟩, hB.trans hBW⟩
        · rw [hSn.out, List.length_append]; exact hr2
        · intro q hq
          rcases List.mem_append.1 hq with hq | hq
          · exact hok q hq
          · simp at hq; subst hq; exact hka
      · rw [addV_no hka] at HAp
        have HAp := Lib.hid HAp
        simp only [buckV, Buck.cells] at HAp ⊢
        gi_wp2_with fail
        refine ⟨trivial, ?_⟩
        (with_reducible refine (CallsIn.inRound l (HAp.out _)).mono ?_); rintro e w5 ⟨rfl, hb5⟩
        have q4 := (b4.below hB (by omega)).below hb5 (by omega)
        have q5 := (b5.below hB (by omega)).below hb5 (by omega)
        have c4 : w5.cell? ⟨w.heap.size, 0, none⟩ = some (.slice none 0 0) := q4.cell 0
        have c5 : w5.cell? ⟨w.heap.size + 1, 0, none⟩ = some (.int .i64 0) := q5.cell 0
        have f4 := q4.frozen 0
        have f5 := q5.frozen 0
        have k4 := q4.lt
        have k5 := q5.lt
        gi_wp2
        refine ⟨?_, ⟨⟨rfl, p, by simp, hka⟩, (res2 _ _ q4 q5 (by omega)).1.alloc _, (res2 _ _ q4 q5 (by omega)).2.alloc _⟩, ?_⟩
        · exact (keepsFrom_below hb5).trans ((((KeepsOthers.setCell _ _ _).trans (KeepsOthers.setCell _ _ _)).trans (KeepsOthers.alloc _ _)).from _)
        · have hBw : Below w.heap.size w w5 := hB0.trans ((hB.mono bz).trans (hb5.mono (by omega)))
          exact ((hBw.setCell (p := ⟨w.heap.size, 0, none⟩) (Nat.le_refl _) _).setCell (p := ⟨w.heap.size + 1, 0, none⟩) (by simp) _).alloc (by simp [World.setCell]; omega) _
    case done =>
      rintro D ys W hD rfl ⟨⟨⟨v, hv, hrow, hnil⟩, hok⟩, hB⟩ hK
      have hWz := hB.size
      have hc := hv.cell
      have hO : Own4 w4.heap.size W v ((pairsL na nb).map addB) := ⟨by rw [List.length_map]; exact hrow, by rw [List.map_eq_nil_iff]; exact hnil⟩
      obtain ⟨A', c', rfl⟩ := hO.form
      have hN := (normal_any A' c' ((pairsL na nb).map addB) (by rw [List.length_map]; omega) W hO.sl).mono (R' := fun e w' => ∃ v, e = .returned v ∧ Own4 W.heap.size w' v (normL ((pairsL na nb).map addB)) ∧ Below W.heap.size W w') fun e w' ⟨v, h1, h2, h3, h4⟩ => ⟨v, h1, ⟨h2, h3⟩, h4⟩
      have HN := callsIn_wide (n := 8).2 hN
      have q4 := b4.below hB (by omega)
      have q5 := b5.below hB (by omega)
      have Hok := Lib.hid hok
      have hBw : Below w.heap.size w W := hB0.trans (hB.mono bz)
      clear hN hO hrow hnil hok
      generalize hPL : (pairsL na nb).map addB = PL at *
      have HPL := Lib.hid hPL
      clear hPL
      gi_wp2_with fail
      refine ⟨trivial, ?_⟩
      (with_reducible refine HN.mono ?_); rintro e w6 ⟨v6, rfl, ho6, hb6⟩
      obtain ⟨A6, cc6, rfl⟩ := ho6.form
      have p4 := q4.below hb6 q4.lt
      have p5 := q5.below hb6 q5.lt
      have c4 : w6.cell? ⟨w.heap.size, 0, none⟩ = some (.slice none 0 0) := p4.cell 0
      have c5 : w6.cell? ⟨w.heap.size + 1, 0, none⟩ = some (.int .i64 0) := p5.cell 0
      have f4 := p4.frozen 0
      have f5 := p5.frozen 0
      have k4 := p4.lt
      have k5 := p5.lt
      have hDl : D < W.heap.size := (Array.getElem?_eq_some_iff.1 hK).1
      have hK6 : w6.heap[D]? = some (.deferred (some [])) := (hb6.block D hDl).trans hK
      have hKs : ((w6.setCell ⟨w.heap.size, 0, none⟩ (.slice A6 (normL PL).length cc6)).setCell ⟨w.heap.size + 1, 0, none⟩ (.int .i64 0)).heap[D]? = some (.deferred (some [])) :=
        (Below.heap_setCell _ _ _ D (by simp; omega)).trans ((Below.heap_setCell _ _ _ D (by simp; omega)).trans hK6)
      obtain ⟨r4, r5⟩ := res2 (.slice A6 (normL PL).length cc6) (.int .i64 0) p4 p5 (by omega)
      have ho7 : Own4 W.heap.size (((w6.setCell ⟨w.heap.size, 0, none⟩ (.slice A6 (normL PL).length cc6)).setCell ⟨w.heap.size + 1, 0, none⟩ (.int .i64 0)).putObj D (.deferred none)) (.slice A6 (normL PL).length cc6) (normL PL) :=
        ho6.same fun g hg => (World.putObj_heap_other (by omega)).trans ((Below.heap_setCell _ _ _ g (by simp; omega)).trans (Below.heap_setCell _ _ _ g (by simp; omega)))
      have s4 := Lib.hid ((cell_same (World.putObj_heap_other (w := (w6.setCell ⟨w.heap.size, 0, none⟩ (.slice A6 (normL PL).length cc6)).setCell ⟨w.heap.size + 1, 0, none⟩ (.int .i64 0)) (o := .deferred none) (show w.heap.size ≠ D by omega)) 0).trans (r4.cell 0))
      have s5 := Lib.hid ((cell_same (World.putObj_heap_other (w := (w6.setCell ⟨w.heap.size, 0, none⟩ (.slice A6 (normL PL).length cc6)).setCell ⟨w.heap.size + 1, 0, none⟩ (.int .i64 0)) (o := .deferred none) (show w.heap.size + 1 ≠ D by omega)) 0).trans (r5.cell 0))
      have HKs := Lib.hid hKs
      have Ho7 := Lib.hid (ho7.base hBw.size)
      clear hKs ho7 r4 r5 ho6
      gi_wp2
      refine ⟨by simp, .inl ⟨_, _, rfl, run_takeDeferred HKs.out, ?_⟩⟩
      refine ⟨.tuple #[.slice A6 (normL PL).length cc6, .int .i64 0], by simp [results, Tryz.f17, go_sem, s4.out, s5.out], fun h => absurd h (by omega), fun _ h => absurd Hok.out h, fun _ _ => ⟨_, rfl, by rw [HPL.out]; exact Ho7.out⟩, ?_⟩
      have hB6 : Below w.heap.size w w6 := hBw.trans (hb6.mono hBw.size)
      exact ((hB6.setCell (p := ⟨w.heap.size, 0, none⟩) (Nat.le_refl _) _).setCell (p := ⟨w.heap.size + 1, 0, none⟩) (by simp) _).trans (belowK_b (w := w) (Nat.le_refl _) _ D _ _ (by omega) HKs.out rfl rfl)
    case stop =>
      rintro D c pre W hD hpre ⟨⟨⟨rfl, p, hp, hnok⟩, q4, q5⟩, hB⟩ hK
      have hno : ¬ ∀ p ∈ pairsL na nb, oka p := fun h => hnok (h p (hpre.subset hp))
      have r4 : (W.putObj D (.deferred none)).cell? ⟨w.heap.size, 0, none⟩ = some (.slice none 0 0) := (cell_same (World.putObj_heap_other (by omega)) 0).trans (q4.cell 0)
      have r5 : (W.putObj D (.deferred none)).cell? ⟨w.heap.size + 1, 0, none⟩ = some (.int .i64 3) := (cell_same (World.putObj_heap_other (by omega)) 0).trans (q5.cell 0)
      gi_wp2
      refine ⟨by simp, .inl ⟨_, _, rfl, run_takeDeferred hK, ?_⟩⟩
      refine ⟨.tuple #[.slice none 0 0, .int .i64 3], by simp [results, Tryz.f17, go_sem, r4, r5], fun h => absurd h (by omega), fun _ _ => rfl, fun _ h => absurd h hno, ?_⟩
      exact hB.trans (belowK_b (w := w) (Nat.le_refl _) W D _ _ (by omega) hK rfl rfl)
end Go.Proofs.YtbncfknjgldcbaaGreat
/- curve.twos: its function value hands on every two buckets, the earlier one first. -/
namespace Go.Proofs.YtbncfknjgldcbaaGreat
open Go.RowKit Go.Joins Go.Shelf Num
attribute [local go_sem] Oper.semAt_some

/-- Every two, the earlier one first. -/
def twosL : List Buck → List (Buck × Buck)
  | [] => []
  | x :: l => l.map (fun y => (x, y)) ++ twosL l
/-- The twos whose first is among the first k. -/
def twosTo : List Buck → Nat → List (Buck × Buck)
  | _, 0 => []
  | [], _ => []
  | x :: l, k + 1 => l.map (fun y => (x, y)) ++ twosTo l k
theorem twosTo_succ {c : List Buck} : ∀ {k : Nat} {x : Buck}, c[k]? = some x → twosTo c (k + 1) = twosTo c k ++ (c.drop (k + 1)).map (fun y => (x, y)) := by
  induction c with
  | nil => intro k x h; simp at h
  | cons z l ih =>
    intro k x h
    cases k with
    | zero => simp at h; subst h; simp [twosTo]
    | succ k =>
      simp only [List.getElem?_cons_succ] at h
      simp only [twosTo, List.drop_succ_cons]
      rw [ih h, List.append_assoc]
theorem twosTo_all (c : List Buck) : twosTo c c.length = twosL c := by
  induction c with
  | nil => rfl
  | cons x l ih => simp only [List.length_cons, twosTo, twosL, ih]
theorem twosTo_pre (c : List Buck) : ∀ k, twosTo c k <+: twosL c := by
  induction c with
  | nil => intro k; cases k <;> exact List.prefix_refl _
  | cons x l ih =>
    intro k
    cases k with
    | zero => exact List.nil_prefix
    | succ k => simp only [twosTo, twosL]; exact (List.prefix_append_right_inj _).2 (ih k)
theorem twos_pre {c : List Buck} {k : Nat} {x : Buck} (hx : c[k]? = some x) (j : Nat) : twosTo c k ++ ((c.drop (k + 1)).take j).map (fun y => (x, y)) <+: twosL c := by
  refine List.IsPrefix.trans ?_ (twosTo_pre c (k + 1))
  rw [twosTo_succ hx]
  exact (List.prefix_append_right_inj _).2 ((List.take_prefix j _).map _)

/-- The slice value of the box B and its row, with its capacity. -/
structure BoxSc (bL : Nat) (W : World) (B : Nat) (t : TypeId) (c : List Buck) : Prop where
  f : FrW bL W B
  h : ∃ A cap, BoxN W B t #[.slice A c.length cap] ∧ c.length ≤ cap ∧ (c ≠ [] → ∃ b off, A = some ⟨b, off, none⟩ ∧ FrW bL W b ∧ Row W b off c)
theorem BoxSc.keep {bL : Nat} {W W' : World} {B : Nat} {t : TypeId} {c : List Buck} (h : BoxSc bL W B t c) (k : ∀ k, FrW bL W k → W'.heap[k]? = W.heap[k]? ∧ FrW bL W' k) : BoxSc bL W' B t c := by
  obtain ⟨A, cap, h1, h2, h3⟩ := h.h
  refine ⟨(k _ h.f).2, A, cap, (k _ h.f).1.trans h1, h2, fun hc => ?_⟩
  obtain ⟨b, off, e, hf, hr⟩ := h3 hc
  exact ⟨b, off, e, (k _ hf).2, hr.same (k _ hf).1⟩
theorem BoxSc.grow {bL : Nat} {w W : World} (hb : Below w.heap.size w W) (hl : bL < w.heap.size) {B : Nat} {t : TypeId} {c : List Buck} (h : BoxSc bL w B t c) : BoxSc bL W B t c := h.keep fun k hk => ⟨hb.block k hk.lt, hk.grow hb hl⟩

set_option maxRecDepth 100000 in
set_option maxHeartbeats 4000000 in
theorem twos1_in (F : Fence) (n : Nat) (h7 : F.fn 101) (hro : F.round = none) (hn : 1 ≤ n) (l Bc n₀ bL : Nat) (c : List Buck) (hc : c.length ≤ 1048576) (J Jx : List (Buck × Buck) → World → Prop)
    (hJa : ∀ pre W o, J pre W → J pre (W.alloc o))
    (hY : ∀ pre x W, J pre W → pre.length < (twosL c).length → YieldAt F (n - 1) Tryz.prog l #[.agg x.1.cells.toArray, .agg x.2.cells.toArray] W fun e W' =>
      (e = .returned (.bool true) ∧ J (pre ++ [x]) W' ∧ Kp2 n₀ bL W W') ∨ (e = .returned (.bool false) ∧ Jx (pre ++ [x]) W'))
    (W : World) (hg : GoodW bL W) (hl : bL < W.heap.size) (hC : BoxSc bL W Bc 23 c) (h0 : J [] W) :
    CallsIn F n Tryz.prog 101 #[.func (.yield l) #[] #[], .pointer (some ⟨Bc, 0, none⟩)] W fun e W' => (∃ v, e = .returned v) ∧
      ((∃ ys, ys = twosL c ∧ J ys W') ∨ (∃ pre, pre <+: twosL c ∧ Jx pre W')) := by
  refine callsIn_of_wp Tryz.func101 rfl h7 ?_ hro
  simp only [Tryz.ntmps101, List.size_toArray, List.length_cons, List.length_nil, Nat.reduceAdd, Nat.reduceSub, Array.replicate_succ, Array.replicate_zero, List.push_toArray, List.append_toArray, List.nil_append, List.cons_append]
  obtain ⟨A, capA, hbA, hcap, hrA⟩ := hC.h
  have cA : W.cell? ⟨Bc, 0, none⟩ = some (.slice A c.length capA) := hbA.cell 0
  gi_wp2
  gi_loopw [9] (fun i wr => ∃ k : Nat, k ≤ c.length ∧ i = .int .i64 k ∧ J (twosTo c k) wr ∧ bL < wr.heap.size ∧ GoodW bL wr ∧ ∀ j, FrW bL W j → wr.heap[j]? = W.heap[j]? ∧ FrW bL wr j)
    (fun i _ => c.length - (intOf i).toNat)
  case atStart => exact ⟨0, Nat.zero_le _, rfl, by simpa [twosTo] using h0, hl, hg, fun j hj => ⟨rfl, hj⟩⟩
  case round =>
    obtain ⟨k, hk, rfl, hJs, hlr, hgr, hfr⟩ := hrel
    by_cases hlt : k < c.length
    · have hx : c[k]? = some c[k] := List.getElem?_eq_getElem hlt
      obtain ⟨x, hxe⟩ : ∃ x, c[k] = x := ⟨_, rfl⟩
      rw [hxe] at hx
      obtain ⟨ba, oa, rfl, hfa, hra⟩ := hrA (by intro h; subst h; simp at hlt)
      obtain ⟨c0, c1, c2, c3⟩ := (hra.same (hfr ba hfa).1) k x hx
      have hbC := (hfr Bc hC.f).1.trans hbA
      have lBc : Bc < wr.heap.size := BoxN.lt hbC
      have cC : wr.cell? ⟨Bc, 0, none⟩ = some (.slice (some ⟨ba, oa, none⟩) c.length capA) := BoxN.cell hbC 0
      have hsucc := Lib.hid (twosTo_succ hx)
      have hpre := Lib.hid (fun j => twos_pre hx j)
      have Hx := Lib.hid hx
      clear hx hxe hC hbC hbA
      have bX := BoxN.new wr 80 #[.int .i64 x.b.num, .int .i64 x.b.den, .int .i64 x.r.num, .int .i64 x.r.den]
      have fX := FrW.new hgr hlr #[.int .i64 x.b.num, .int .i64 x.b.den, .int .i64 x.r.num, .int .i64 x.r.den] 80
      have hJ1 := hJa _ _ (.cells #[.int .i64 x.b.num, .int .i64 x.b.den, .int .i64 x.r.num, .int .i64 x.r.den] 80) hJs
      obtain ⟨hg1, hf1⟩ := Kf.alloc hlr (.cells #[.int .i64 x.b.num, .int .i64 x.b.den, .int .i64 x.r.num, .int .i64 x.r.den] 80) hgr
      have hl1 : bL < (wr.alloc (.cells #[.int .i64 x.b.num, .int .i64 x.b.den, .int .i64 x.r.num, .int .i64 x.r.den] 80)).heap.size := by simp; omega
      have hfr1 : ∀ i, FrW bL W i → (wr.alloc (.cells #[.int .i64 x.b.num, .int .i64 x.b.den, .int .i64 x.r.num, .int .i64 x.r.den] 80)).heap[i]? = W.heap[i]? ∧ FrW bL (wr.alloc (.cells #[.int .i64 x.b.num, .int .i64 x.b.den, .int .i64 x.r.num, .int .i64 x.r.den] 80)) i := fun i hi => ⟨(hf1 i (hfr i hi).2).1.trans (hfr i hi).1, (hf1 i (hfr i hi).2).2⟩
      have hd : ∀ w', (Instr.slice 23 (.slice (some ⟨ba, oa, none⟩) c.length capA) (some (.int .i64 (↑k + 1))) none none).run Tryz.prog w' = .ok (.slice (if capA = k + 1 then some ⟨ba, oa, none⟩ else some ⟨ba, oa + (k + 1) * 4, none⟩) (c.length - (k + 1)) (capA - (k + 1))) w' := fun w' => by
        rw [run_slice_l w' 23 _ c.length capA (by kernel_rfl) .i64 (↑k + 1) (by omega) (by omega)]
        have e1 : ((k : Int) + 1).toNat = k + 1 := by omega
        have e2 : (sizeOf (Tryz.prog.elem 23)).run Tryz.prog w' = .ok 4 w' := by kernel_rfl
        rw [e1, e2]
        simp only [Result.andThen, sliced]
        by_cases h : capA = k + 1
        · simp [h]
        · simp [h, Addr.add]
      have hrB1 : c.drop (k + 1) ≠ [] → ∃ g o, (if capA = k + 1 then some ⟨ba, oa, none⟩ else some ⟨ba, oa + (k + 1) * 4, none⟩ : Option Addr) = some ⟨g, o, none⟩ ∧ FrW bL (wr.alloc (.cells #[.int .i64 x.b.num, .int .i64 x.b.den, .int .i64 x.r.num, .int .i64 x.r.den] 80)) g ∧ Row (wr.alloc (.cells #[.int .i64 x.b.num, .int .i64 x.b.den, .int .i64 x.r.num, .int .i64 x.r.den] 80)) g o (c.drop (k + 1)) := fun h => by
        have h1 : k + 1 < c.length := by
          rcases Nat.lt_or_ge (k + 1) c.length with h1 | h1
          · exact h1
          · exact absurd (List.drop_eq_nil_of_le h1) h
        refine ⟨ba, oa + (k + 1) * 4, if_neg (by omega), (hfr1 ba hfa).2, fun j y hy => ?_⟩
        rw [List.getElem?_drop] at hy
        have r := (hra.same (hfr1 ba hfa).1) (k + 1 + j) y hy
        rw [show oa + (k + 1 + j) * 4 = oa + (k + 1) * 4 + j * 4 by omega] at r
        exact r
      have hdl : c.length - (k + 1) = (c.drop (k + 1)).length := by simp
      rw [hdl] at hd
      generalize (if capA = k + 1 then some ⟨ba, oa, none⟩ else some ⟨ba, oa + (k + 1) * 4, none⟩ : Option Addr) = A17 at hd hrB1
      generalize capA - (k + 1) = C17 at hd
      have hdn : (c.drop (k + 1)).length ≤ 1048576 := by simp; omega
      generalize c.drop (k + 1) = d at hd hrB1 hsucc hpre hdn
      clear hf1 hfr hgr hJs hra hrA hdl
      gi_wp2
      clear hd c0 c1 c2 c3 cC
      generalize wr.alloc (.cells #[.int .i64 x.b.num, .int .i64 x.b.den, .int .i64 x.r.num, .int .i64 x.r.den] 80) = W1 at bX fX hJ1 hg1 hl1 hfr1 hrB1 ⊢
      generalize wr.heap.size = Bx at bX fX ⊢
      gi_loopw [19] (fun i w2 => ∃ j : Nat, j ≤ d.length ∧ i = .int .i64 j ∧ J (twosTo c k ++ (d.take j).map (fun y => (x, y))) w2 ∧ bL < w2.heap.size ∧ GoodW bL w2 ∧ ∀ i, FrW bL W1 i → w2.heap[i]? = W1.heap[i]? ∧ FrW bL w2 i)
        (fun i _ => d.length - (intOf i).toNat)
      case atStart => exact ⟨0, Nat.zero_le _, rfl, by simpa using hJ1, hl1, hg1, fun j hj => ⟨rfl, hj⟩⟩
      case round =>
        obtain ⟨j, hj, rfl, hJ2, hl2, hg2, hf2⟩ := hrel
        by_cases hjt : j < d.length
        · have hy : d[j]? = some d[j] := List.getElem?_eq_getElem hjt
          obtain ⟨y, hye⟩ : ∃ y, d[j] = y := ⟨_, rfl⟩
          rw [hye] at hy
          obtain ⟨bb, ob, rfl, hfb, hrb⟩ := hrB1 (by intro h; subst h; simp at hjt)
          obtain ⟨d0, d1, d2, d3⟩ := (hrb.same (hf2 bb hfb).1) j y hy
          have hmp : Hid ((d.take (j + 1)).map (fun y => (x, y)) = (d.take j).map (fun y => (x, y)) ++ [(x, y)]) := by unfold Hid; rw [take_succ' hy]; simp
          have hp1 := hpre.out (j + 1)
          rw [hmp.out, ← List.append_assoc] at hp1
          have bX2 : BoxN wr Bx 80 #[.int .i64 x.b.num, .int .i64 x.b.den, .int .i64 x.r.num, .int .i64 x.r.den] := (hf2 Bx fX).1.trans bX
          have x0 : wr.cell? ⟨Bx, 0, none⟩ = some (.int .i64 x.b.num) := bX2.cell 0
          have x1 : wr.cell? ⟨Bx, 1, none⟩ = some (.int .i64 x.b.den) := bX2.cell 1
          have x2 : wr.cell? ⟨Bx, 2, none⟩ = some (.int .i64 x.r.num) := bX2.cell 2
          have x3 : wr.cell? ⟨Bx, 3, none⟩ = some (.int .i64 x.r.den) := bX2.cell 3
          have lX := bX2.lt
          obtain ⟨hg3, hf3⟩ := Kf.alloc hl2 (.cells #[.int .i64 y.b.num, .int .i64 y.b.den, .int .i64 y.r.num, .int .i64 y.r.den] 80) hg2
          have hl3 : bL < (wr.alloc (.cells #[.int .i64 y.b.num, .int .i64 y.b.den, .int .i64 y.r.num, .int .i64 y.r.den] 80)).heap.size := by simp; omega
          obtain ⟨fn, tmps, assign, body, hyy, hR⟩ := hY _ (x, y) (wr.alloc (.cells #[.int .i64 y.b.num, .int .i64 y.b.den, .int .i64 y.r.num, .int .i64 y.r.den] 80)) (hJa _ _ _ hJ2) (by have := hp1.length_le; rw [List.length_append] at this; simp only [List.length_cons, List.length_nil] at this; omega)
          simp only [Buck.cells] at hyy
          have Hp1 := Lib.hid hp1
          clear hy hye hp1
          gi_wp2
          refine hR.mono ?_
          rintro e W3 (⟨rfl, hJ3, hk3⟩ | ⟨rfl, hJx3⟩)
          · obtain ⟨hg4, hf4⟩ := hk3.2 hg3
            have hl4 : bL < W3.heap.size := Nat.lt_of_lt_of_le hl3 hk3.1.size
            gi_wp2
            go_roundw
            case rel => exact ⟨j + 1, hjt, by go_num, by rw [hmp.out, ← List.append_assoc]; exact hJ3, hl4, hg4, fun i hi => ⟨((hf4 i (hf3 i (hf2 i hi).2).2).1.trans (hf3 i (hf2 i hi).2).1).trans (hf2 i hi).1, (hf4 i (hf3 i (hf2 i hi).2).2).2⟩⟩
            case measure => simp [intOf]; omega
          · gi_wp2
            refine bodyPost_ret (results_none rfl _ _ _) rfl ?_
            exact ⟨⟨_, rfl⟩, .inr ⟨_, Hp1.out, hJx3⟩⟩
        · obtain rfl : j = d.length := by omega
          rw [List.take_length] at hJ2
          gi_wp2
          go_roundw
          case rel => exact ⟨k + 1, hlt, by go_num, by rw [hsucc.out]; exact hJ2, hl2, hg2, fun i hi => ⟨(hf2 i (hfr1 i hi).2).1.trans (hfr1 i hi).1, (hf2 i (hfr1 i hi).2).2⟩⟩
          case measure => simp [intOf]; omega
    · obtain rfl : k = c.length := by omega
      rw [twosTo_all] at hJs
      gi_wp2
      go_end0
      exact ⟨⟨_, rfl⟩, .inl ⟨_, rfl, hJs⟩⟩

/-- curve.twos: the slice is boxed; the function value holds the box. -/
theorem twos_in (F : Fence) (n : Nat) (h5 : F.fn 62) (hro : F.round = none) (A : Option Addr) (la ca : Nat) (w : World) :
    CallsIn F n Tryz.prog 62 #[.slice A la ca] w fun e w' => e = .returned (.func (.func 101) #[] #[.pointer (some ⟨w.heap.size, 0, none⟩)]) ∧ w' = w.alloc (.cells #[.slice A la ca] 23) := by
  refine callsIn_of_wp Tryz.func62 rfl h5 ?_ hro
  simp only [Tryz.ntmps62, List.size_toArray, List.length_cons, List.length_nil, Nat.reduceAdd, Nat.reduceSub, Array.replicate_succ, Array.replicate_zero, List.push_toArray, List.append_toArray, List.nil_append, List.cons_append]
  gi_wp2
  go_ret
  exact ⟨rfl, rfl⟩

/-- The function value of curve.twos hands on every two buckets. -/
theorem twos_stops (F : Fence) (n : Nat) (h7 : F.fn 101) (hro : F.round = none) (hn : 1 ≤ n) (Bc n₀ bL : Nat) (c : List Buck) (hc : c.length ≤ 1048576) (w : World) (hl : bL < w.heap.size) (hg : GoodW bL w)
    (hC : BoxSc bL w Bc 23 c) :
    SeqStopsK F n Tryz.prog 101 #[.pointer (some ⟨Bc, 0, none⟩)] (fun x : Buck × Buck => #[.agg x.1.cells.toArray, .agg x.2.cells.toArray]) (Kp2 n₀ bL) (fun ys => ys = twosL c) (fun pre => pre <+: twosL c) (twosL c).length w := fun l J Jx W hW hJ _ hY h0 =>
  twos1_in F n h7 hro hn l Bc n₀ bL c hc J Jx (fun pre W1 o hj => hJ pre W1 _ none hj (World.grownBy_alloc W1 o none) (fun r e => by cases e)) hY W (hg.grow hW hl) (Nat.lt_of_lt_of_le hl hW.size) (hC.grow hW hl) h0
end Go.Proofs.YtbncfknjgldcbaaGreat
/- Points as a list of numbers: slices.SortFunc and slices.Compact at a slice of the call's own. -/
namespace Go.Proofs.YtbncfknjgldcbaaGreat
open Go.RowKit Go.Joins Go.Shelf Go.Sort Num

structure Pt where
  q : Rat
  h : Fit q
deriving DecidableEq
instance : Inhabited Pt := ⟨⟨0, by constructor <;> decide⟩⟩
theorem Pt.ext' {x y : Pt} (h : x.q = y.q) : x = y := by cases x; cases y; simp_all
def Pt.cells (x : Pt) : List Value := [.int .i64 x.q.num, .int .i64 x.q.den]
def Pt.ord (x y : Pt) : Int := cmpQ x.q y.q
/-- The cells of points. -/
def ptsOf (c : List Pt) : List Value := c.flatMap Pt.cells
theorem ptsOf_snoc (c : List Pt) (x : Pt) : ptsOf (c ++ [x]) = ptsOf c ++ x.cells := by simp [ptsOf]
theorem ptsOf_length (c : List Pt) : (ptsOf c).length = c.length * 2 := by
  unfold ptsOf
  induction c with
  | nil => rfl
  | cons x c ih => rw [List.flatMap_cons, List.length_append, ih, List.length_cons, Nat.succ_mul]; simp [Pt.cells]; omega
theorem one_pt (x : Pt) : ∀ u ∈ x.cells, u.oneCell' = true := by
  intro u hu
  simp only [Pt.cells, List.mem_cons, List.not_mem_nil, or_false] at hu
  rcases hu with rfl | rfl <;> rfl
theorem infoR : (Tryz.prog.info? 25).map (fun i => (i.zero, i.size, i.bytes)) = some (some (.agg #[.int .i64 0, .int .i64 0]), 2, 16) := by kernel_rfl
/-- Block b holds the points c from off on. -/
def Row2 (W : World) (b off : Nat) (c : List Pt) : Prop := ∀ j x, c[j]? = some x → W.cell? ⟨b, off + j * 2, none⟩ = some (.int .i64 x.q.num) ∧ W.cell? ⟨b, off + j * 2 + 1, none⟩ = some (.int .i64 x.q.den)
theorem Row2.below {B : Nat} {W W' : World} {b off : Nat} {c : List Pt} (h : Row2 W b off c) (hk : Below B W W') (hb : b < B) : Row2 W' b off c := fun j x hx => by
  obtain ⟨h0, h1⟩ := h j x hx
  exact ⟨(hk.cell (p := ⟨b, _, none⟩) hb).trans h0, (hk.cell (p := ⟨b, _, none⟩) hb).trans h1⟩
theorem flat_pts (c : List Pt) : ∀ (j i : Nat) (x : Pt), c[j]? = some x → i < 2 → (ptsOf c)[j * 2 + i]? = x.cells[i]? := by
  induction c with
  | nil => intro j i x h; simp at h
  | cons y c ih =>
    intro j i x h hi
    have e : ptsOf (y :: c) = y.cells ++ ptsOf c := rfl
    rw [e]
    cases j with
    | zero =>
      simp only [List.getElem?_cons_zero, Option.some.injEq] at h
      subst h
      rw [List.getElem?_append_left (by simp [Pt.cells]; omega)]
      simp
    | succ j =>
      rw [List.getElem?_append_right (by simp [Pt.cells]; omega), ← ih j i x (by simpa using h) hi]
      congr 1
      simp [Pt.cells]; omega
theorem flatP_cells (c : List Pt) (t : Nat) (ht : t < c.length * 2) : (ptsOf c)[t]? = some (flatK Pt.cells 2 c.toArray)[t]! := by
  rw [get_flatK _ _ _ _ (by simpa using ht)]
  have hj : t / 2 < c.length := by omega
  have := flat_pts c (t / 2) (t % 2) c[t / 2] (List.getElem?_eq_getElem hj) (Nat.mod_lt _ (by decide))
  rw [show t / 2 * 2 + t % 2 = t by omega] at this
  rw [this]
  have e1 : c.toArray[t / 2]! = c[t / 2] := by simp [getElem!_pos, hj]
  rw [e1]
  have hl : t % 2 < (c[t / 2]).cells.length := by simp [Pt.cells]; omega
  rw [List.getElem?_eq_getElem hl, getElem!_pos c[t / 2].cells (t % 2) hl]
theorem own_pts {w : World} {base g cap : Nat} {c : List Pt} (h : w.ownsRow base 25 2 (.slice (some ⟨g, 0, none⟩) c.length cap) c.length (ptsOf c)) : Row2 w g 0 c := fun j x hx => by
  have hj : j < c.length := (List.getElem?_eq_some_iff.1 hx).1
  have f := fun i (hi : i < 2) => (h.cellAt (j * 2 + i) (by omega)).trans (flat_pts c j i x hx hi)
  rw [Nat.zero_add]
  exact ⟨f 0 (by decide), f 1 (by decide)⟩

theorem ptlt_iff {x y : Pt} : ltOf Pt.ord x y = true ↔ x.q < y.q := by unfold ltOf Pt.ord; rw [decide_eq_true_iff, cmpQ_neg]
theorem ptlt_not {x y : Pt} : ltOf Pt.ord x y = false ↔ ¬ x.q < y.q := by rw [← ptlt_iff, Bool.not_eq_true]
theorem pt_total (x y : Pt) (h1 : ltOf Pt.ord x y = false) (h2 : ltOf Pt.ord y x = false) : x = y :=
  Pt.ext' (Rat.le_antisymm (Rat.not_lt.1 (ptlt_not.1 h2)) (Rat.not_lt.1 (ptlt_not.1 h1)))
theorem pt_swo : SWO (ltOf Pt.ord) where
  irrefl x := ptlt_not.2 Rat.lt_irrefl
  trans x y z h1 h2 := ptlt_iff.2 (lt_tr' (ptlt_iff.1 h1) (ptlt_iff.1 h2))
  ntrans x y z h1 h2 := by
    rw [ptlt_not] at *
    exact Rat.not_lt.2 (Rat.le_trans (Rat.not_lt.1 h2) (Rat.not_lt.1 h1))
/-- The points in their order. -/
def sortP (c : List Pt) : List Pt := c.mergeSort fun x y => !(ltOf Pt.ord) y x
theorem sortP_length (c : List Pt) : (sortP c).length = c.length := List.length_mergeSort _

theorem cmpLaysP (blk off size : Nat) (w : World) : CmpLays Tryz.prog 44 #[] Pt.cells 2 Pt.ord blk off size w :=
  fun _ _ _ _ x y => (cmp_r x.h y.h _).mono fun _ _ ⟨h, k⟩ => ⟨h, k.eq⟩
theorem holdsP_of_own {W : World} {base g cap : Nat} {c : List Pt} (h : W.ownsRow base 25 2 (.slice (some ⟨g, 0, none⟩) c.length cap) c.length (ptsOf c)) : HoldsK Pt.cells 2 W g 0 c.toArray := by
  intro j hj
  rw [size_flatK] at hj
  have hj' : j < c.length * 2 := by simpa using hj
  refine ⟨?_, h.frozenAt _⟩
  rw [Nat.zero_add, h.cellAt j hj', flatP_cells c j hj']
  rfl
theorem gb_refl (w : World) (row : Option Nat) : w.grownBy w row := ⟨rfl, rfl, rfl, Nat.le_refl _, fun _ _ _ => rfl⟩
theorem gb_drewN {w0 w : World} {row : Option Nat} (h : w0.grownBy w row) (n : Nat) : w0.grownBy (w.drewN n) row := ⟨h.os, h.tape, h.output, h.size, h.block⟩
theorem gb_setCell {w0 w : World} {g : Nat} (h : w0.grownBy w (some g)) (i : Nat) (v : Value) : w0.grownBy (w.setCell ⟨g, i, none⟩ v) (some g) :=
  ⟨h.os, h.tape, h.output, by simpa [World.setCell] using h.size, fun k hk hne => (Below.heap_setCell w ⟨g, i, none⟩ v k (fun e => hne (by rw [e]))).trans (h.block k hk hne)⟩
theorem gb_setCells {w0 : World} {g : Nat} : ∀ (l : List Value) (o : Nat) (w : World), w0.grownBy w (some g) → w0.grownBy (w.setCells g o l) (some g)
  | [], _, _, h => h
  | v :: r, o, _, h => gb_setCells r (o + 1) _ (gb_setCell h o v)
theorem gb_sortP {w : World} {g n : Nat} {d : Array Pt} {os : Array Obj} : w.grownBy (sortWorldK Pt.cells 2 w g 0 n d os) (some g) := by
  refine ⟨rfl, rfl, rfl, by simp only [sortWorldK, size_grow, putRowK, putRow, mapBlock, Sort.ahead, Array.size_modify]; omega, fun k hk hne => ?_⟩
  simp only [sortWorldK, putRowK, putRow, mapBlock, Sort.ahead, grow]
  rw [Array.getElem?_append_left (by simp; omega), Array.getElem?_modify, if_neg (fun e => hne (by rw [e]))]
theorem own_sortP {base : Nat} {w : World} {g cap n : Nat} {c d : List Pt} {os : Array Obj} (h : w.ownsRow base 25 2 (.slice (some ⟨g, 0, none⟩) c.length cap) c.length (ptsOf c)) (hl : d.length = c.length) :
    (sortWorldK Pt.cells 2 w g 0 n d.toArray os).ownsRow base 25 2 (.slice (some ⟨g, 0, none⟩) d.length cap) d.length (ptsOf d) := by
  rcases h.2 with ⟨e, _⟩ | ⟨g', cap', cur, e, hb, hg, hnc, hcm, hcs, htake⟩
  · cases e
  · simp only [Value.slice.injEq, Option.some.injEq, Addr.mk.injEq, and_true, true_and] at e
    obtain ⟨rfl, rfl⟩ := e
    have hgl : g < w.heap.size := (Array.getElem?_eq_some_iff.1 hg).1
    refine ⟨ptsOf_length d, .inr ⟨g, cap, putCells id 0 (flatK Pt.cells 2 d.toArray) cur, rfl, hb, ?_, by omega, hcm, by simpa [putCells] using hcs, ?_⟩⟩
    · simp only [sortWorldK, putRowK, putRow, mapBlock, Sort.ahead, grow]
      rw [Array.getElem?_append_left (by simp; omega), Array.getElem?_modify, if_pos rfl, hg]
      rfl
    · apply List.ext_getElem?
      intro t
      rw [List.getElem?_take]
      by_cases ht : t < d.length * 2
      · rw [if_pos ht, flatP_cells d t ht, Array.getElem?_toList]
        have hc : t < cur.size := by
          have : c.length * 2 ≤ cap * 2 := Nat.mul_le_mul_right 2 hnc
          omega
        simp [putCells, Array.getElem?_mapIdx, Array.getElem?_eq_getElem hc, ht]
      · rw [if_neg ht, List.getElem?_eq_none (by rw [ptsOf_length]; omega)]

set_option maxHeartbeats 1000000 in
/-- slices.SortFunc by rat.Cmp at a slice of the call's own. -/
theorem sortFuncP_own (base : Nat) (v : Value) (c : List Pt) (hlen : c.length < 4611686018427387904) (w : World) (ho : w.ownsRow base 25 2 v c.length (ptsOf c)) (hnil : v = .slice none 0 0 ↔ c = []) :
    Calls Tryz.prog 64 #[v, .func (.func 44) #[] #[]] w fun e w' => e = .returned (.tuple #[]) ∧ w.grownBy w' v.ownBlock ∧ w'.ownsRow base 25 2 v (sortP c).length (ptsOf (sortP c)) := by
  by_cases hc : c = []
  · subst hc
    obtain rfl : v = .slice none 0 0 := hnil.2 rfl
    exact (AnyF.slices_SortFunc_none { Tryz.sortR with } none 0 _ w).mono fun e w' ⟨h1, h2⟩ => ⟨h1, by rw [h2]; exact gb_refl _ _, by rw [h2]; simpa [sortP] using ho⟩
  · have hp : 0 < c.length := List.length_pos_iff.2 hc
    obtain ⟨g, cap, rfl, hb, hlt⟩ := ho.form hp
    have eg : ∀ args w, (callFunc 44 args).run Tryz.prog w = .ok (.enter 44 args) w := enters_of Tryz.func44 (by kernel_rfl) rfl
    have hH := holdsP_of_own ho
    have hS := AnyQ.slices_SortFunc_total Tryz.sortR 2 Tryz.isAgg25 Tryz.sizeOf25 Pt.cells (fun _ => rfl) one_pt Pt.ord pt_swo 44 #[] g 0 cap c.toArray w eg (cmpLaysP _ _ _ _) hH hlt (by simpa using hlen) pt_total
    simp only [List.size_toArray] at hS
    change Calls Tryz.prog 64 _ _ _ at hS
    refine hS.mono ?_
    rintro e w' ⟨he, n, os, rfl⟩
    refine ⟨he, gb_sortP, ?_⟩
    have := own_sortP (n := n) (d := sortP c) (os := os) ho (sortP_length c)
    rwa [show (Value.slice (some ⟨g, 0, none⟩) (sortP c).length cap) = .slice (some ⟨g, 0, none⟩) c.length cap by rw [sortP_length]] at this

/-- Points without repetitions one after the other. -/
def stepP (acc : List Pt) (x : Pt) : List Pt := if acc.getLast? = some x then acc else acc ++ [x]
def compL (c : List Pt) : List Pt := c.foldl stepP []
theorem compL_snoc (c : List Pt) (x : Pt) : compL (c ++ [x]) = stepP (compL c) x := by unfold compL; rw [List.foldl_append]; rfl
theorem compL_last (c : List Pt) : (compL c).getLast? = c.getLast? := by
  rcases List.eq_nil_or_concat c with rfl | ⟨l, x, rfl⟩
  · rfl
  · rw [List.concat_eq_append, compL_snoc]
    unfold stepP
    split
    · next h => rw [h]; simp
    · simp
theorem stepP_foldl_len (l : List Pt) : ∀ acc : List Pt, (l.foldl stepP acc).length ≤ acc.length + l.length := by
  induction l with
  | nil => intro acc; simp
  | cons x l ih =>
    intro acc
    rw [List.foldl_cons]
    have h1 := ih (stepP acc x)
    have h2 : (stepP acc x).length ≤ acc.length + 1 := by unfold stepP; split <;> simp
    simp only [List.length_cons]; omega
theorem compL_len (c : List Pt) : (compL c).length ≤ c.length := by
  have := stepP_foldl_len c []
  simpa [compL] using this
end Go.Proofs.YtbncfknjgldcbaaGreat
/- slices.Compact at points in a slice of the call's own. -/
namespace Go.Proofs.YtbncfknjgldcbaaGreat
open Go.RowKit Go.Joins Go.Shelf Go.Sort Num

theorem eq_p {x y : Pt} (W : World) : Sem.run Tryz.prog (binOp .eql 25 (.agg #[.int .i64 x.q.num, .int .i64 x.q.den]) (.agg #[.int .i64 y.q.num, .int .i64 y.q.den])) W = .ok (.bool (decide (x = y))) W := by
  have hn : (x = y) ↔ (x.q.num = y.q.num ∧ (x.q.den : Int) = y.q.den) := ⟨fun h => by rw [h]; exact ⟨rfl, rfl⟩, fun ⟨h1, h2⟩ => Pt.ext' (Rat.ext h1 (by omega))⟩
  simp only [hn]
  generalize x.q.num = a1
  generalize (x.q.den : Int) = a2
  generalize y.q.num = b1
  generalize (y.q.den : Int) = b2
  go_simp
  repeat' split
  all_goals (first | rfl | omega | (simp; omega) | (simp_all))
theorem neq_p {x y : Pt} (W : World) : Sem.run Tryz.prog (binOp .neq 25 (.agg #[.int .i64 x.q.num, .int .i64 x.q.den]) (.agg #[.int .i64 y.q.num, .int .i64 y.q.den])) W = .ok (.bool (!decide (x = y))) W := by
  have hn : (x = y) ↔ (x.q.num = y.q.num ∧ (x.q.den : Int) = y.q.den) := ⟨fun h => by rw [h]; exact ⟨rfl, rfl⟩, fun ⟨h1, h2⟩ => Pt.ext' (Rat.ext h1 (by omega))⟩
  simp only [hn]
  generalize x.q.num = a1
  generalize (x.q.den : Int) = a2
  generalize y.q.num = b1
  generalize (y.q.den : Int) = b2
  go_simp
  repeat' split
  all_goals (first | rfl | omega | (simp; omega) | (simp_all))

/-- clear at elements of two cells. -/
theorem run_clear2 (w : World) (b o n c : Nat) (hn : 0 < n) (hc : ∀ j, j < n * 2 → (w.cell? ⟨b, o + j, none⟩).isSome = true) (hf : ∀ j, j < n * 2 → w.frozen? ⟨b, o + j, none⟩ = false) (ty : TypeId) :
    (Builtin.clear_ #[44] ty #[.slice (some ⟨b, o, none⟩) n c]).run Tryz.prog w = .ok (.tuple #[]) (w.setCells b o (Builtin.zeroCells #[.int .i64 0, .int .i64 0] n).toList) := by
  have hv : ∀ w, (zeroValue 25).run Tryz.prog w = .ok (.agg #[.int .i64 0, .int .i64 0]) w := fun w => by kernel_rfl
  have hlen : (Builtin.zeroCells #[.int .i64 0, .int .i64 0] n).toList.length = n * 2 := by simp [Builtin.zeroCells]
  have hst := run_storeCells_cells (P := Tryz.prog) b o (Builtin.zeroCells #[.int .i64 0, .int .i64 0] n).toList 0 w (by rw [hlen]; simpa using hc) (by rw [hlen]; simpa using hf) (by
    intro v hv'
    simp only [Builtin.zeroCells, Array.toList_map, List.mem_map] at hv'
    obtain ⟨i, -, rfl⟩ := hv'
    have h2 : i % 2 = 0 ∨ i % 2 = 1 := by omega
    rcases h2 with h | h <;> simp [h] <;> rfl)
  simp only [Nat.add_zero] at hst
  obtain ⟨m, rfl⟩ : ∃ m, n = m + 1 := ⟨n - 1, by omega⟩
  have hzc : (Value.agg #[.int .i64 0, .int .i64 0]).cells = #[.int .i64 0, .int .i64 0] := rfl
  simp [Builtin.clear_, run_underlying Tryz.underlying44, hv, hzc, hst]

theorem ptsOf_set (D : List Pt) (p : Nat) (x : Pt) (hp : p < D.length) : ((ptsOf D).set (p * 2) (.int .i64 x.q.num)).set (p * 2 + 1) (.int .i64 x.q.den) = ptsOf (D.set p x) := by
  apply List.ext_getElem?
  intro t
  have hlen := ptsOf_length D
  rw [List.getElem?_set, List.getElem?_set]
  simp only [List.length_set, hlen]
  by_cases ht : t < D.length * 2
  · have hj : t / 2 < D.length := by omega
    have h1 := flat_pts (D.set p x) (t / 2) (t % 2) ((D.set p x)[t / 2]'(by simpa using hj)) (List.getElem?_eq_getElem (by simpa using hj)) (Nat.mod_lt _ (by decide))
    have h0 := flat_pts D (t / 2) (t % 2) D[t / 2] (List.getElem?_eq_getElem hj) (Nat.mod_lt _ (by decide))
    rw [show t / 2 * 2 + t % 2 = t by omega] at h1 h0
    rw [h1, h0]
    rw [List.getElem_set]
    by_cases hpt : p = t / 2
    · rw [if_pos hpt]
      have : t % 2 = 0 ∨ t % 2 = 1 := by omega
      rcases this with h | h
      · rw [if_neg (by omega), if_pos (by omega), if_pos (by omega), h]; rfl
      · rw [if_pos (by omega), if_pos (by omega), h]; rfl
    · rw [if_neg hpt, if_neg (by omega), if_neg (by omega)]
  · rw [if_neg (by omega), if_neg (by omega), List.getElem?_eq_none (by rw [ptsOf_length]; omega), List.getElem?_eq_none (by rw [ptsOf_length, List.length_set]; omega)]

theorem own_set {w : World} {base g cap : Nat} {D : List Pt} (h : w.ownsRow base 25 2 (.slice (some ⟨g, 0, none⟩) D.length cap) D.length (ptsOf D)) (p : Nat) (x : Pt) (hp : p < D.length) :
    ((w.setCell ⟨g, p * 2, none⟩ (.int .i64 x.q.num)).setCell ⟨g, p * 2 + 1, none⟩ (.int .i64 x.q.den)).ownsRow base 25 2 (.slice (some ⟨g, 0, none⟩) (D.set p x).length cap) (D.set p x).length (ptsOf (D.set p x)) := by
  have h2 := ((h.stored (p * 2) (.int .i64 x.q.num)).1.stored (p * 2 + 1) (.int .i64 x.q.den)).1
  rw [ptsOf_set D p x hp] at h2
  rwa [List.length_set]

theorem compL_take {c : List Pt} {m : Nat} {x y : Pt} (hx : c[m + 1]? = some x) (hy : c[m]? = some y) : compL (c.take (m + 1 + 1)) = if x = y then compL (c.take (m + 1)) else compL (c.take (m + 1)) ++ [x] := by
  rw [take_succ' hx, compL_snoc]
  unfold stepP
  have hl : (compL (c.take (m + 1))).getLast? = some y := by
    rw [compL_last, take_succ' hy]; simp
  rw [hl]
  by_cases h : x = y
  · subst h; simp
  · rw [if_neg h, if_neg (fun e => h (Option.some.inj e).symm)]

theorem cut_from (g p n cap : Nat) (hp : p < n) (hcap : n ≤ cap) (w : World) : (Instr.slice 44 (.slice (some ⟨g, 0, none⟩) n cap) (some (.int .i64 ↑p)) none none).run Tryz.prog w = .ok (.slice (some ⟨g, p * 2, none⟩) (n - p) (cap - p)) w := by
  rw [run_slice_l w 44 _ n cap (by kernel_rfl) .i64 ↑p (by omega) (by omega)]
  have e2 : (sizeOf (Tryz.prog.elem 44)).run Tryz.prog w = .ok 2 w := by kernel_rfl
  rw [Int.toNat_natCast, e2]
  simp only [Result.andThen, sliced]
  simp [show ¬ cap = p by omega, Addr.add]
  intro h; omega
theorem cut_to (g p n cap : Nat) (hp : p ≤ cap) (hcap : 0 < cap) (w : World) : (Instr.slice 44 (.slice (some ⟨g, 0, none⟩) n cap) none (some (.int .i64 ↑p)) none).run Tryz.prog w = .ok (.slice (some ⟨g, 0, none⟩) p cap) w := by
  rw [run_slice_h w 44 _ n cap (by kernel_rfl) .i64 ↑p (by omega) (by omega)]
  have e2 : (sizeOf (Tryz.prog.elem 44)).run Tryz.prog w = .ok 2 w := by kernel_rfl
  rw [Int.toNat_natCast, e2]
  simp only [Result.andThen, sliced]
  simp [show ¬ cap = 0 by omega, Addr.add]

set_option maxRecDepth 100000 in
set_option maxHeartbeats 4000000 in
theorem compact_own (base g cap : Nat) (c : List Pt) (hlen : c.length ≤ 1048576) (w : World) (ho : w.ownsRow base 25 2 (.slice (some ⟨g, 0, none⟩) c.length cap) c.length (ptsOf c)) :
    Calls Tryz.prog 65 #[.slice (some ⟨g, 0, none⟩) c.length cap] w fun e w' => e = .returned (.slice (some ⟨g, 0, none⟩) (compL c).length cap) ∧ w.grownBy w' (some g) ∧ Row2 w' g 0 (compL c) ∧ g < w'.heap.size := by
  obtain ⟨-, hgl⟩ := own_lt ho
  have hcap : c.length ≤ cap := by
    rcases ho.2 with ⟨e, _⟩ | ⟨g', cap', cur, e, _, _, hnc, _⟩
    · cases e
    · simp only [Value.slice.injEq, Option.some.injEq, Addr.mk.injEq, and_true, true_and] at e
      obtain ⟨rfl, rfl⟩ := e
      exact hnc
  by_cases h2 : c.length < 2
  · have hc : compL c = c := by
      match c, h2 with
      | [], _ => rfl
      | [x], _ => rfl
      | _ :: _ :: _, h => simp at h; omega
    rw [hc]
    have hr := Lib.hid (own_pts ho)
    clear ho
    go_enter Tryz.func65, Tryz.ntmps65
    go_wp2
    go_ret
    exact ⟨rfl, gb_refl _ _, hr.out, hgl⟩
  · go_enter Tryz.func65, Tryz.ntmps65
    go_wp2_with fail
    go_loopw [3] (fun i wr => ∃ m : Nat, m + 1 ≤ c.length ∧ i = .int .i64 (↑m + 1) ∧ compL (c.take (m + 1)) = c.take (m + 1) ∧ wr.ownsRow base 25 2 (.slice (some ⟨g, 0, none⟩) c.length cap) c.length (ptsOf c) ∧ w.grownBy wr (some g))
      (fun i _ => c.length - (intOf i).toNat)
    case atStart => exact ⟨0, by omega, rfl, by
      match c, h2 with
      | x :: l, _ => rfl, ho, gb_refl _ _⟩
    case round =>
      obtain ⟨m, hm, rfl, hcm, hoR, hBR⟩ := hrel
      have hR := own_pts hoR
      have hgr : g < wr.heap.size := (own_lt hoR).2
      by_cases hlt : m + 1 < c.length
      · have hx : c[m + 1]? = some c[m + 1] := List.getElem?_eq_getElem hlt
        have hy : c[m]? = some c[m] := List.getElem?_eq_getElem (by omega)
        obtain ⟨x, hxe⟩ : ∃ x, c[m + 1] = x := ⟨_, rfl⟩
        obtain ⟨y, hye⟩ : ∃ y, c[m] = y := ⟨_, rfl⟩
        rw [hxe] at hx
        rw [hye] at hy
        obtain ⟨x0, x1⟩ := hR _ _ hx
        obtain ⟨y0, y1⟩ := hR _ _ hy
        simp only [Nat.zero_add] at x0 x1 y0 y1
        have hct := compL_take hx hy
        have hts := take_succ' hx
        have Hct := Lib.hid hct
        have Hcm := Lib.hid hcm
        have Hts := Lib.hid hts
        have Hx := Lib.hid hx
        have Hy := Lib.hid hy
        have HR := Lib.hid hR
        have heq := fun W => eq_p (x := x) (y := y) W
        have i1 : IntKind.i64.wrap ((m : Int) + 1 - 1) = m := by rw [IntWalk.i64_in _ (by omega)]; omega
        clear hct hcm hts hx hy hxe hye hR
        by_cases hxy : x = y
        · subst hxy
          have hcut := cut_from g (m + 1) c.length cap hlt hcap
          simp only [Int.natCast_add, Int.natCast_one] at hcut
          simp only [decide_true] at heq
          rw [if_pos rfl] at Hct
          obtain ⟨N2, hN2⟩ : ∃ N2, c.length - (m + 1) = N2 := ⟨_, rfl⟩
          rw [hN2] at hcut
          go_wp2_with fail
          go_quiet (fail)
          rename_i nq
          replace hoR : (wr.drewN nq).ownsRow base 25 2 (.slice (some ⟨g, 0, none⟩) c.length cap) c.length (ptsOf c) := hoR
          replace hBR := gb_drewN hBR nq
          clear x0 x1 y0 y1 heq i1 HR Hx Hy
          generalize wr.drewN nq = wq at hoR hBR ⊢
          go_wp2
          clear hcut
          go_loopw [3, 5] (fun i j wr => ∃ (q p : Nat) (D : List Pt), m + 1 + q + 1 ≤ c.length ∧ 1 ≤ p ∧ p ≤ m + 1 + q ∧ i = .int .i64 ↑p ∧ j = .int .i64 (↑q + 1) ∧ compL (c.take (m + 1 + q + 1)) = D.take p ∧ D.length = c.length ∧ (∀ t, m + 1 + q ≤ t → D[t]? = c[t]?) ∧ wr.ownsRow base 25 2 (.slice (some ⟨g, 0, none⟩) D.length cap) D.length (ptsOf D) ∧ w.grownBy wr (some g))
            (fun _ j _ => c.length - (intOf j).toNat)
          case atStart => exact ⟨0, m + 1, c, by omega, by omega, by omega, by go_num, by go_num, by rw [Nat.add_zero, Hct.out, Hcm.out], rfl, fun _ _ => rfl, hoR, hBR⟩
          case round =>
            obtain ⟨q, p, D, hq, hp1, hp2, rfl, rfl, hcD, hDl, hDt, hoD, hBD⟩ := hrel
            have hRD := own_pts hoD
            have hgr : g < wr.heap.size := (own_lt hoD).2
            have HcD := Lib.hid hcD
            have HDl := Lib.hid hDl
            have HDt := Lib.hid hDt
            have hpl : p < D.length := by omega
            clear hcD hDt
            by_cases hlt2 : q + 1 < N2
            · have hx : c[m + 1 + q + 1]? = some c[m + 1 + q + 1] := List.getElem?_eq_getElem (by omega)
              have hy : c[m + 1 + q]? = some c[m + 1 + q] := List.getElem?_eq_getElem (by omega)
              obtain ⟨u, hue⟩ : ∃ u, c[m + 1 + q + 1] = u := ⟨_, rfl⟩
              obtain ⟨v, hve⟩ : ∃ v, c[m + 1 + q] = v := ⟨_, rfl⟩
              rw [hue] at hx
              rw [hve] at hy
              have hct := compL_take hx hy
              obtain ⟨x0, x1⟩ := hRD _ _ ((HDt.out _ (by omega)).trans hx)
              obtain ⟨y0, y1⟩ := hRD _ _ ((HDt.out _ (by omega)).trans hy)
              rw [show 0 + (m + 1 + q + 1) * 2 = (m + 1) * 2 + (q + 1) * 2 by omega] at x0 x1
              rw [show 0 + (m + 1 + q) * 2 = (m + 1) * 2 + q * 2 by omega] at y0 y1
              have hDp : D[p]? = some D[p] := List.getElem?_eq_getElem hpl
              obtain ⟨d0, d1⟩ := hRD _ _ hDp
              simp only [Nat.zero_add] at d0 d1
              have f0 := hoD.frozenAt (p * 2)
              have f1 := hoD.frozenAt (p * 2 + 1)
              have hneq := fun W => neq_p (x := u) (y := v) W
              have i1 : IntKind.i64.wrap ((q : Int) + 1 - 1) = q := by rw [IntWalk.i64_in _ (by omega)]; omega
              have Hct2 := Lib.hid hct
              have Hx := Lib.hid hx
              clear hct hx hy hue hve hDp hRD
              generalize D[p] = dp at d0 d1
              by_cases huv : u = v
              · subst huv
                simp only [decide_true, Bool.not_true] at hneq
                rw [if_pos rfl] at Hct2
                go_wp2_with fail
                go_quiet (fail)
                rename_i nq
                replace hoD : (wr.drewN nq).ownsRow base 25 2 (.slice (some ⟨g, 0, none⟩) D.length cap) D.length (ptsOf D) := hoD
                replace hBD := gb_drewN hBD nq
                clear x0 x1 y0 y1 hneq i1 d0 d1 f0 f1
                generalize wr.drewN nq = wz at hoD hBD ⊢
                go_wp2
                go_roundw
                case rel => exact ⟨q + 1, p, D, by omega, hp1, by omega, rfl, by go_num, by rw [show m + 1 + (q + 1) + 1 = m + 1 + q + 1 + 1 by omega, Hct2.out, HcD.out], HDl.out, fun t ht => HDt.out t (by omega), hoD, hBD⟩
                case measure => simp [intOf]; omega
              · have hd : decide (u = v) = false := decide_eq_false huv
                rw [hd] at hneq
                simp only [Bool.not_false] at hneq
                rw [if_neg huv] at Hct2
                go_wp2_with fail
                go_quiet (fail)
                rename_i nq
                replace hoD : (wr.drewN nq).ownsRow base 25 2 (.slice (some ⟨g, 0, none⟩) D.length cap) D.length (ptsOf D) := hoD
                replace hBD := gb_drewN hBD nq
                replace x0 : (wr.drewN nq).cell? ⟨g, (m + 1) * 2 + (q + 1) * 2, none⟩ = _ := x0
                replace x1 : (wr.drewN nq).cell? ⟨g, (m + 1) * 2 + (q + 1) * 2 + 1, none⟩ = _ := x1
                replace d0 : (wr.drewN nq).cell? ⟨g, p * 2, none⟩ = _ := d0
                replace d1 : (wr.drewN nq).cell? ⟨g, p * 2 + 1, none⟩ = _ := d1
                replace f0 : (wr.drewN nq).frozen? ⟨g, p * 2, none⟩ = _ := f0
                replace f1 : (wr.drewN nq).frozen? ⟨g, p * 2 + 1, none⟩ = _ := f1
                have hset := Lib.hid (own_set hoD p u hpl)
                have hBs := Lib.hid (gb_setCell (gb_setCell hBD (p * 2) (.int .i64 u.q.num)) (p * 2 + 1) (.int .i64 u.q.den))
                have htk : Hid ((D.set p u).take (p + 1) = D.take p ++ [u]) := by
                  unfold Hid
                  rw [List.take_add_one, List.take_set_of_le (Nat.le_refl _), List.getElem?_set_self hpl]; rfl
                have hne : ∀ t, m + 1 + (q + 1) ≤ t → (D.set p u)[t]? = c[t]? := fun t ht => by
                  rw [List.getElem?_set_ne (by omega)]; exact HDt.out t (by omega)
                have Hne := Lib.hid hne
                clear y0 y1 hneq i1 hoD hBD hne
                generalize wr.drewN nq = wz at x0 x1 d0 d1 f0 f1 hset hBs ⊢
                go_wp2
                go_roundw
                case rel => exact ⟨q + 1, p + 1, D.set p u, by omega, by omega, by omega, by go_num, by go_num, by rw [show m + 1 + (q + 1) + 1 = m + 1 + q + 1 + 1 by omega, Hct2.out, HcD.out, htk.out], by rw [List.length_set]; exact HDl.out, Hne.out, hset.out, hBs.out⟩
                case measure => simp [intOf]; omega
            · have hqe : m + 1 + q + 1 = c.length := by omega
              have hc1 := cut_from g p c.length cap (by omega) hcap
              have hc2 := cut_to g p c.length cap (by omega) (by omega)
              have hrow2 : ∀ j, j < D.length * 2 → wr.cell? ⟨g, j, none⟩ = (ptsOf D)[j]? := fun j hj => hoD.cellAt j hj
              have hclr := run_clear2 wr g (p * 2) (c.length - p) (cap - p) (by omega) (fun j hj => by rw [hrow2 _ (by omega), List.getElem?_eq_getElem (by rw [ptsOf_length]; omega)]; rfl) (fun j hj => hoD.frozenAt _)
              have hlenZ : (Builtin.zeroCells #[.int .i64 0, .int .i64 0] (c.length - p)).toList.length = (c.length - p) * 2 := by simp [Builtin.zeroCells]
              generalize (Builtin.zeroCells #[.int .i64 0, .int .i64 0] (c.length - p)).toList = Z at hclr hlenZ
              have hcl : compL c = D.take p := by rw [← HcD.out, hqe, List.take_length]
              have hfin : Row2 (wr.setCells g (p * 2) Z) g 0 (compL c) := fun j u hu => by
                rw [hcl, List.getElem?_take] at hu
                by_cases hj : j < p
                · rw [if_pos hj] at hu
                  obtain ⟨k0, k1⟩ := hRD j u hu
                  rw [World.cell?_setCells_out _ _ _ _ _ (fun _ _ => .inl (by simp; omega)), World.cell?_setCells_out _ _ _ _ _ (fun _ _ => .inl (by simp; omega))]
                  exact ⟨k0, k1⟩
                · rw [if_neg hj] at hu; cases hu
              have hfl : (compL c).length = p := by rw [hcl, List.length_take]; omega
              have hBf := gb_setCells Z (p * 2) wr hBD
              have hsz : (wr.setCells g (p * 2) Z).heap.size = wr.heap.size := by
                have : ∀ (l : List Value) (o : Nat) (w : World), (w.setCells g o l).heap.size = w.heap.size := fun l => by
                  induction l with
                  | nil => intro o w; rfl
                  | cons v r ih => intro o w; rw [World.setCells, ih]; simp [World.setCell]
                exact this _ _ _
              have Hfin := Lib.hid hfin
              have Hfl := Lib.hid hfl
              have HBf := Lib.hid hBf
              have Hsz := Lib.hid hsz
              clear hfin hfl hBf hcl hRD hrow2 hsz hqe
              go_wp2
              go_ret
              exact ⟨by rw [Hfl.out]; rfl, HBf.out, Hfin.out, by rw [Hsz.out]; exact hgr⟩
        · have hd : decide (x = y) = false := decide_eq_false hxy
          rw [hd] at heq
          rw [if_neg hxy] at Hct
          go_wp2_with fail
          go_quiet (fail)
          rename_i nq
          replace hoR : (wr.drewN nq).ownsRow base 25 2 (.slice (some ⟨g, 0, none⟩) c.length cap) c.length (ptsOf c) := hoR
          replace hBR := gb_drewN hBR nq
          clear x0 x1 y0 y1 heq i1 HR
          generalize wr.drewN nq = wq at hoR hBR ⊢
          go_wp2
          go_roundw
          case rel => exact ⟨m + 1, by omega, by go_num, by rw [Hct.out, Hcm.out, ← Hts.out], hoR, hBR⟩
          case measure => simp [intOf]; omega
      · have hme : m + 1 = c.length := by omega
        have hcc : compL c = c := by rw [hme, List.take_length] at hcm; exact hcm
        have HR := Lib.hid hR
        have Hcc := Lib.hid hcc
        clear hcm hcc hR hme
        go_wp2
        go_ret
        exact ⟨by rw [Hcc.out]; rfl, hBR, by rw [Hcc.out]; exact HR.out, hgr⟩
end Go.Proofs.YtbncfknjgldcbaaGreat
/- The normal form: what it is, and that it is the only one. -/
namespace Go.Proofs.YtbncfknjgldcbaaGreat
open Go.RowKit Go.Shelf Go.Sort Num

/-- x comes before y in a normal form. -/
def Buck.bef (x y : Buck) : Prop := x.b < y.b ∧ y.r < x.r
/-- x is at most y everywhere. -/
def Buck.le (x y : Buck) : Prop := x.b ≤ y.b ∧ x.r ≤ y.r
theorem Buck.le_refl (x : Buck) : x.le x := ⟨Rat.le_refl, Rat.le_refl⟩
theorem Buck.le_trans {x y z : Buck} (h : x.le y) (k : y.le z) : x.le z := ⟨Rat.le_trans h.1 k.1, Rat.le_trans h.2 k.2⟩
theorem Buck.bef_trans {x y z : Buck} (h : x.bef y) (k : y.bef z) : x.bef z := ⟨lt_tr' h.1 k.1, lt_tr' k.2 h.2⟩
theorem dom_iff {x y : Buck} (h : x ≠ y) : x.domB y = true ↔ x.le y := by
  unfold Buck.domB Buck.le
  simp only [ne_eq, h, not_false_eq_true, decide_true, Bool.true_and, Bool.and_eq_true, decide_eq_true_eq, cmpQ_le]
/-- kept is a normal form of done. -/
structure Nf (kept done : List Buck) : Prop where
  o : kept.Pairwise Buck.bef
  s : ∀ x ∈ kept, x ∈ done
  c : ∀ x ∈ done, ∃ y ∈ kept, y.le x
theorem Nf.nil : Nf [] [] := ⟨.nil, fun _ h => h, fun _ h => absurd h List.not_mem_nil⟩
theorem pw_snoc {acc : List Buck} {b : Buck} (h : acc.Pairwise Buck.bef) (hl : ∀ l, acc.getLast? = some l → l.bef b) : (acc ++ [b]).Pairwise Buck.bef := by
  rw [List.pairwise_append]
  refine ⟨h, List.pairwise_singleton _ _, fun x hx y hy => ?_⟩
  simp only [List.mem_singleton] at hy
  subst hy
  rcases List.eq_nil_or_concat acc with rfl | ⟨init, l, rfl⟩
  · cases hx
  · rw [List.concat_eq_append] at h hl hx
    have hlb := hl l (by simp)
    rcases List.mem_append.1 hx with hx | hx
    · exact Buck.bef_trans ((List.pairwise_append.1 h).2.2 x hx l (by simp)) hlb
    · simp only [List.mem_singleton] at hx; subst hx; exact hlb
theorem Nf.step {acc done : List Buck} {b : Buck} (h : Nf acc done) (hs : ∀ d ∈ done, ¬ b.lt d) : Nf (keepB acc b) (done ++ [b]) := by
  have hmem : ∀ x ∈ acc, x ∈ done ++ [b] := fun x hx => List.mem_append_left _ (h.s x hx)
  have hbm : b ∈ done ++ [b] := by simp
  have old : ∀ {L : List Buck}, (∀ x ∈ acc, x ∈ L) → (∃ y ∈ L, y.le b) → ∀ x ∈ done ++ [b], ∃ y ∈ L, y.le x := fun {L} hL hb x hx => by
    rcases List.mem_append.1 hx with hx | hx
    · obtain ⟨y, hy, hle⟩ := h.c x hx
      exact ⟨y, hL y hy, hle⟩
    · simp only [List.mem_singleton] at hx; subst hx; exact hb
  have app : (∀ l, acc.getLast? = some l → l.bef b) → Nf (acc ++ [b]) (done ++ [b]) := fun hl =>
    ⟨pw_snoc h.o hl, fun x hx => by
      rcases List.mem_append.1 hx with hx | hx
      · exact hmem x hx
      · simp only [List.mem_singleton] at hx; subst hx; exact hbm,
     old (fun x hx => List.mem_append_left _ hx) ⟨b, by simp, b.le_refl⟩⟩
  rcases List.eq_nil_or_concat acc with rfl | ⟨init, l, rfl⟩
  · exact app (fun l hl => by simp at hl)
  · rw [List.concat_eq_append] at *
    have hld : l ∈ done := h.s l (by simp)
    have hlb := hs l hld
    by_cases he : l = b
    · subst he
      rw [keep_same]
      exact ⟨h.o, hmem, old (fun x hx => hx) ⟨l, by simp, l.le_refl⟩⟩
    · cases hd : l.domB b
      · rw [keep_more _ he hd]
        refine app fun l' hl' => ?_
        rw [List.getLast?_concat] at hl'
        cases hl'
        have hn : ¬ l.le b := fun hle => by rw [(dom_iff he).2 hle] at hd; cases hd
        have h1 : l.b ≤ b.b := Rat.not_lt.1 fun hlt => hlb (.inl hlt)
        have h2 : b.r < l.r := Rat.not_le.1 fun hle => hn ⟨h1, hle⟩
        refine ⟨?_, h2⟩
        rcases Rat.le_iff_lt_or_eq.1 h1 with h3 | h3
        · exact h3
        · exact absurd (.inr ⟨h3.symm, h2⟩) hlb
      · rw [keep_dom _ hd]
        exact ⟨h.o, hmem, old (fun x hx => hx) ⟨l, by simp, (dom_iff he).1 hd⟩⟩
theorem nf_fold : ∀ (rest done acc : List Buck), Nf acc done → (done ++ rest).Pairwise (fun x y => ¬ y.lt x) → Nf (rest.foldl keepB acc) (done ++ rest)
  | [], done, acc, h, _ => by simpa using h
  | b :: rest, done, acc, h, hp => by
    rw [List.foldl_cons]
    have e : done ++ b :: rest = done ++ [b] ++ rest := by simp
    rw [e] at hp ⊢
    exact nf_fold rest (done ++ [b]) _ (h.step fun d hd => (List.pairwise_append.1 (List.pairwise_append.1 hp).1).2.2 d hd b (by simp)) hp
theorem sortL_mem {c : List Buck} {x : Buck} : x ∈ sortL c ↔ x ∈ c := List.mem_mergeSort
theorem sortL_pw (c : List Buck) : (sortL c).Pairwise (fun x y => ¬ y.lt x) := by
  have h := List.pairwise_mergeSort (le := fun x y => !(ltOf Buck.ord) y x) (fun x y z h1 h2 => by
    simp only [Bool.not_eq_true', ltOf_not] at h1 h2 ⊢
    intro h3
    by_cases h4 : y.lt z
    · exact h1 (buck_trans h4 h3)
    · have := buck_tri y z h4 h2
      subst this
      exact h1 h3) (fun x y => by
    simp only [Bool.or_eq_true, Bool.not_eq_true', ltOf_not]
    by_cases h : y.lt x
    · exact .inr fun k => buck_irrefl _ (buck_trans h k)
    · exact .inl h) c
  exact h.imp fun {x y} k => by simpa only [Bool.not_eq_true', ltOf_not] using k
theorem normL_nf (c : List Buck) : Nf (normL c) c := by
  have h := nf_fold (sortL c) [] [] .nil (by simpa using sortL_pw c)
  rw [List.nil_append] at h
  exact ⟨h.o, fun x hx => sortL_mem.1 (h.s x hx), fun x hx => h.c x (sortL_mem.2 hx)⟩

/-- In a normal form only equal buckets are at most one another. -/
theorem bef_le {x y : Buck} (h : x.bef y) : ¬ x.le y ∧ ¬ y.le x := ⟨fun k => Rat.not_le.2 h.2 k.2, fun k => Rat.not_le.2 h.1 k.1⟩
theorem pw_le {L : List Buck} (h : L.Pairwise Buck.bef) {x y : Buck} (hx : x ∈ L) (hy : y ∈ L) (hle : x.le y) : x = y := by
  induction L with
  | nil => cases hx
  | cons z L ih =>
    rw [List.pairwise_cons] at h
    rcases List.mem_cons.1 hx with k1 | k1 <;> rcases List.mem_cons.1 hy with k2 | k2
    · rw [k1, k2]
    · subst k1; exact absurd hle (bef_le (h.1 y k2)).1
    · subst k2; exact absurd hle (bef_le (h.1 x k1)).2
    · exact ih h.2 k1 k2
theorem le_anti {x y : Buck} (h : x.le y) (k : y.le x) : x = y := Buck.ext' (Rat.le_antisymm h.1 k.1) (Rat.le_antisymm h.2 k.2)
theorem pw_ext {L M : List Buck} (hL : L.Pairwise Buck.bef) (hM : M.Pairwise Buck.bef) (h : ∀ x, x ∈ L ↔ x ∈ M) : L = M := by
  induction L generalizing M with
  | nil =>
    cases M with
    | nil => rfl
    | cons y M => exact absurd ((h y).2 (by simp)) List.not_mem_nil
  | cons x L ih =>
    cases M with
    | nil => exact absurd ((h x).1 (by simp)) List.not_mem_nil
    | cons y M =>
      rw [List.pairwise_cons] at hL hM
      have hxy : x = y := by
        rcases List.mem_cons.1 ((h x).1 (by simp)) with e | hx
        · exact e
        · rcases List.mem_cons.1 ((h y).2 (by simp)) with e | hy
          · exact e.symm
          · exact absurd (lt_tr' (hM.1 x hx).1 (hL.1 y hy).1) Rat.lt_irrefl
      subst hxy
      rw [ih hL.2 hM.2 fun z => ?_]
      constructor
      · intro hz
        rcases List.mem_cons.1 ((h z).1 (List.mem_cons_of_mem _ hz)) with e | hz'
        · subst e; exact absurd (hL.1 _ hz).1 Rat.lt_irrefl
        · exact hz'
      · intro hz
        rcases List.mem_cons.1 ((h z).2 (List.mem_cons_of_mem _ hz)) with e | hz'
        · subst e; exact absurd (hM.1 _ hz).1 Rat.lt_irrefl
        · exact hz'
/-- There is one normal form only, whatever the order of the buckets, and whatever buckets are added that are not below. -/
theorem Nf.uniq {L M c d : List Buck} (hL : Nf L c) (hM : Nf M d) (h1 : ∀ x ∈ L, ∃ y ∈ d, y.le x) (h2 : ∀ x ∈ M, ∃ y ∈ c, y.le x) : L = M := by
  have one : ∀ {L M c d : List Buck}, Nf L c → Nf M d → (∀ x ∈ L, ∃ y ∈ d, y.le x) → (∀ x ∈ M, ∃ y ∈ c, y.le x) → ∀ x ∈ L, x ∈ M := fun {L M c d} hL hM h1 h2 x hx => by
    obtain ⟨y, hy, hyx⟩ := h1 x hx
    obtain ⟨m, hm, hmy⟩ := hM.c y hy
    obtain ⟨z, hz, hzm⟩ := h2 m hm
    obtain ⟨l, hl, hlz⟩ := hL.c z hz
    have hlm := Buck.le_trans hlz hzm
    have hlx := Buck.le_trans hlm (Buck.le_trans hmy hyx)
    have e := pw_le hL.o hl hx hlx
    subst e
    have := le_anti hlm (Buck.le_trans hmy hyx)
    subst this
    exact hm
  exact pw_ext hL.o hM.o fun x => ⟨one hL hM h1 h2 x, one hM hL h2 h1 x⟩
theorem nf_uniq {L c : List Buck} (h : Nf L c) : normL c = L := (normL_nf c).uniq h (fun x hx => ⟨x, (normL_nf c).s x hx, x.le_refl⟩) (fun x hx => ⟨x, h.s x hx, x.le_refl⟩)
theorem normL_idem (c : List Buck) : normL (normL c) = normL c := nf_uniq ⟨(normL_nf c).o, fun _ h => h, fun x hx => ⟨x, hx, x.le_refl⟩⟩
theorem normL_mem_eq {c d : List Buck} (h : ∀ x, x ∈ c ↔ x ∈ d) : normL c = normL d := nf_uniq ⟨(normL_nf d).o, fun x hx => (h x).2 ((normL_nf d).s x hx), fun x hx => (normL_nf d).c x ((h x).1 hx)⟩
theorem normL_ne {c : List Buck} (h : c ≠ []) : normL c ≠ [] := by
  intro e
  obtain ⟨x, hx⟩ := List.exists_mem_of_ne_nil c h
  obtain ⟨y, hy, _⟩ := (normL_nf c).c x hx
  rw [e] at hy; cases hy
theorem normL_len (c : List Buck) : (normL c).length ≤ c.length := by
  have := foldl_keep_length (sortL c) []
  rw [sortL_length] at this
  simpa [normL] using this
theorem twosL_mem {c : List Buck} (h : c.Pairwise Buck.bef) : ∀ p ∈ twosL c, p.1.bef p.2 := by
  induction c with
  | nil => intro p hp; cases hp
  | cons x l ih =>
    rw [List.pairwise_cons] at h
    intro p hp
    simp only [twosL, List.mem_append, List.mem_map] at hp
    rcases hp with ⟨y, hy, rfl⟩ | hp
    · exact h.1 y hy
    · exact ih h.2 p hp
theorem twosL_sub {c : List Buck} : ∀ p ∈ twosL c, p.1 ∈ c ∧ p.2 ∈ c := by
  induction c with
  | nil => intro p hp; cases hp
  | cons x l ih =>
    intro p hp
    simp only [twosL, List.mem_append, List.mem_map] at hp
    rcases hp with ⟨y, hy, rfl⟩ | hp
    · exact ⟨by simp, List.mem_cons_of_mem _ hy⟩
    · exact ⟨List.mem_cons_of_mem _ (ih p hp).1, List.mem_cons_of_mem _ (ih p hp).2⟩
theorem twosL_length (c : List Buck) : (twosL c).length ≤ c.length * c.length := by
  induction c with
  | nil => simp [twosL]
  | cons x l ih =>
    simp only [twosL, List.length_append, List.length_map, List.length_cons]
    have : (l.length + 1) * (l.length + 1) = l.length * l.length + l.length + l.length + 1 := by
      rw [Nat.succ_mul, Nat.mul_succ]; omega
    omega
end Go.Proofs.YtbncfknjgldcbaaGreat
