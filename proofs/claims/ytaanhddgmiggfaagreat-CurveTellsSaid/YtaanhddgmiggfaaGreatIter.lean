/- slices.Values at buckets: its closure hands on the row's buckets in their order. -/
import Derived.Test.YtaanhddgmiggfaaGreatBuck
import Derived.Outline
import Derived.RangeFuncNested
import Derived.RangeFuncBound
import Derived.RangeFuncCalls
import Derived.RangeFuncLeaves
import Derived.RangeFuncBox
import Derived.Shelf.Abstract
import Derived.Shelf.RegionOpen
import Derived.OwnWalkIn
import Derived.TacticsInMore
import Derived.LoopNIn
import Derived.LoopIn
import Derived.Maps.AppendAt
namespace Go.Proofs.YtaanhddgmiggfaaGreat
open Go.RowKit Go.Joins Go.Shelf Num
attribute [local go_sem] Oper.semAt_some

/-- Block b holds the buckets c from off on. -/
def Row (W : World) (b off : Nat) (c : List Buck) : Prop :=
  ∀ j x, c[j]? = some x → W.cell? ⟨b, off + j * 4, none⟩ = some (.int .i64 x.b.num) ∧ W.cell? ⟨b, off + j * 4 + 1, none⟩ = some (.int .i64 x.b.den) ∧ W.cell? ⟨b, off + j * 4 + 2, none⟩ = some (.int .i64 x.r.num) ∧ W.cell? ⟨b, off + j * 4 + 3, none⟩ = some (.int .i64 x.r.den)
theorem Row.below {B : Nat} {W W' : World} {b off : Nat} {c : List Buck} (h : Row W b off c) (hk : Below B W W') (hb : b < B) : Row W' b off c := fun j x hx => by
  obtain ⟨h0, h1, h2, h3⟩ := h j x hx
  exact ⟨(hk.cell (p := ⟨b, _, none⟩) hb).trans h0, (hk.cell (p := ⟨b, _, none⟩) hb).trans h1, (hk.cell (p := ⟨b, _, none⟩) hb).trans h2, (hk.cell (p := ⟨b, _, none⟩) hb).trans h3⟩

theorem take_succ' {α : Type} {l : List α} {k : Nat} {x : α} (h : l[k]? = some x) : l.take (k + 1) = l.take k ++ [x] := by
  rw [List.take_add_one, h]; rfl

set_option maxRecDepth 100000 in
set_option maxHeartbeats 2000000 in
theorem values1_in (F : Fence) (n : Nat) (h7 : F.fn 135) (hro : F.round = none) (hn : 1 ≤ n) (l Bs n₀ b off cap : Nat) (c : List Buck) (hlen : c.length ≤ 4611686018427387903) (hb : b < n₀) (J Jx : List Buck → World → Prop)
    (hJa : ∀ pre W o, J pre W → n₀ ≤ W.heap.size → J pre (W.alloc o))
    (hY : ∀ pre x W, J pre W → pre.length < c.length → YieldAt F (n - 1) Tryz.prog l #[.agg x.cells.toArray] W fun e W' =>
      (e = .returned (.bool true) ∧ J (pre ++ [x]) W' ∧ Below n₀ W W') ∨ (e = .returned (.bool false) ∧ Jx (pre ++ [x]) W'))
    (W : World) (hn0 : n₀ ≤ W.heap.size) (hBs : W.cell? ⟨Bs, 0, none⟩ = some (.slice (some ⟨b, off, none⟩) c.length cap)) (hc : Row W b off c) (h0 : J [] W) :
    CallsIn F n Tryz.prog 135 #[.func (.yield l) #[] #[], .pointer (some ⟨Bs, 0, none⟩)] W fun e W' => (∃ v, e = .returned v) ∧
      ((∃ ys, ys = c ∧ J ys W') ∨ (∃ pre, pre <+: c ∧ Jx pre W')) := by
  refine callsIn_of_wp Tryz.func135 rfl h7 ?_ hro
  simp only [Tryz.ntmps135, List.size_toArray, List.length_cons, List.length_nil, Nat.reduceAdd, Nat.reduceSub, Array.replicate_succ, Array.replicate_zero, List.push_toArray, List.append_toArray, List.nil_append, List.cons_append]
  gi_wp2
  gi_loopw [7] (fun i wr => ∃ k : Nat, k ≤ c.length ∧ i = .int .i64 k ∧ J (c.take k) wr ∧ Below n₀ W wr)
    (fun i _ => c.length - (intOf i).toNat)
  case atStart => exact ⟨0, Nat.zero_le _, rfl, by simpa using h0, Below.refl _ _⟩
  case round =>
    obtain ⟨k, hk, rfl, hJs, hnx⟩ := hrel
    by_cases hlt : k < c.length
    · have hx : c[k]? = some c[k] := List.getElem?_eq_getElem hlt
      obtain ⟨x, hxe⟩ : ∃ x, c[k] = x := ⟨_, rfl⟩
      rw [hxe] at hx
      have hts := Lib.hid (take_succ' hx)
      obtain ⟨c0, c1, c2, c3⟩ := hc.below hnx hb k x hx
      have hwz : n₀ ≤ wr.heap.size := Nat.le_trans hn0 hnx.size
      obtain ⟨fn, tmps, assign, body, hy, hR⟩ := hY _ x (wr.alloc (.cells #[.int .i64 x.b.num, .int .i64 x.b.den, .int .i64 x.r.num, .int .i64 x.r.den] 80)) (hJa _ _ _ hJs hwz) (by rw [List.length_take]; omega)
      simp only [Buck.cells] at hy
      have Hx := Lib.hid hx
      have Hxe := Lib.hid hxe
      clear hx hxe
      gi_wp2
      refine hR.mono ?_
      rintro e W3 (⟨rfl, hJ3, hk3⟩ | ⟨rfl, hJx3⟩)
      · gi_wp2
        go_roundw
        case rel => exact ⟨k + 1, by omega, by simp, by rw [hts.out]; exact hJ3, (hnx.alloc hwz _).trans hk3⟩
        case measure => simp [intOf]; omega
      · gi_wp2
        refine bodyPost_ret (results_none rfl _ _ _) rfl ?_
        exact ⟨⟨_, rfl⟩, .inr ⟨_, by rw [← hts.out]; exact List.take_prefix _ _, hJx3⟩⟩
    · obtain rfl : k = c.length := by omega
      gi_wp2
      go_end0
      exact ⟨⟨_, rfl⟩, .inl ⟨_, rfl, by simpa using hJs⟩⟩

/-- The slice value sv holds the buckets c, in a block below n₀. -/
def Sl (n₀ : Nat) (W : World) (sv : Value) (c : List Buck) : Prop :=
  ∃ A cap, sv = .slice A c.length cap ∧ (c ≠ [] → ∃ b off, A = some ⟨b, off, none⟩ ∧ b < n₀ ∧ Row W b off c)
theorem Sl.below {B n₀ : Nat} {W W' : World} {sv : Value} {c : List Buck} (h : Sl n₀ W sv c) (hk : Below B W W') (hn : n₀ ≤ B) : Sl n₀ W' sv c := by
  obtain ⟨A, cap, e, h⟩ := h
  exact ⟨A, cap, e, fun hc => by obtain ⟨b, off, e1, e2, e3⟩ := h hc; exact ⟨b, off, e1, e2, e3.below hk (by omega)⟩⟩

set_option maxRecDepth 100000 in
set_option maxHeartbeats 1000000 in
theorem values1_nil_in (F : Fence) (n : Nat) (h7 : F.fn 135) (hro : F.round = none) (l Bs cap : Nat) (A : Option Addr) (J : List Buck → World → Prop) (W : World) (hBs : W.cell? ⟨Bs, 0, none⟩ = some (.slice A 0 cap)) (h0 : J [] W) :
    CallsIn F n Tryz.prog 135 #[.func (.yield l) #[] #[], .pointer (some ⟨Bs, 0, none⟩)] W fun e W' => (∃ v, e = .returned v) ∧ J [] W' := by
  refine callsIn_of_wp Tryz.func135 rfl h7 ?_ hro
  simp only [Tryz.ntmps135, List.size_toArray, List.length_cons, List.length_nil, Nat.reduceAdd, Nat.reduceSub, Array.replicate_succ, Array.replicate_zero, List.push_toArray, List.append_toArray, List.nil_append, List.cons_append]
  gi_wp2
  gi_loopw [7] (fun i wr => i = .int .i64 0 ∧ J [] wr) (fun _ _ => 0)
  case atStart => exact ⟨rfl, h0⟩
  case round =>
    obtain ⟨rfl, hJs⟩ := hrel
    gi_wp2
    go_end0
    exact ⟨⟨_, rfl⟩, hJs⟩

set_option maxHeartbeats 1000000 in
/-- slices.Values: the slice is boxed; the function value holds the box. -/
theorem values_in (F : Fence) (n : Nat) (h5 : F.fn 101) (hro : F.round = none) (a : Option Addr) (len cap : Nat) (w : World) :
    CallsIn F n Tryz.prog 101 #[.slice a len cap] w fun e w' => e = .returned (.func (.func 135) #[] #[.pointer (some ⟨w.heap.size, 0, none⟩)]) ∧ w' = w.alloc (.cells #[.slice a len cap] 22) := by
  refine callsIn_of_wp Tryz.func101 rfl h5 ?_ hro
  simp only [Tryz.ntmps101, List.size_toArray, List.length_cons, List.length_nil, Nat.reduceAdd, Nat.reduceSub, Array.replicate_succ, Array.replicate_zero, List.push_toArray, List.append_toArray, List.nil_append, List.cons_append]
  gi_wp2
  go_ret
  exact ⟨rfl, rfl⟩

/-- The function value of slices.Values hands on the buckets of its slice. -/
theorem values_stops (F : Fence) (n : Nat) (h7 : F.fn 135) (hro : F.round = none) (hn : 1 ≤ n) (Bs n₀ : Nat) (sv : Value) (c : List Buck) (hlen : c.length ≤ 4611686018427387903) (w : World) (hBs : Bs < w.heap.size) (hn₀ : n₀ ≤ w.heap.size)
    (hc : w.cell? ⟨Bs, 0, none⟩ = some sv) (hI : Sl n₀ w sv c) :
    SeqStopsK F n Tryz.prog 135 #[.pointer (some ⟨Bs, 0, none⟩)] (fun x : Buck => #[.agg x.cells.toArray]) (Below n₀) (fun ys => ys = c) (fun pre => pre <+: c) c.length w := fun l J Jx W hW hJ _ hY h0 => by
  have hc' := (hW.cell (p := ⟨Bs, 0, none⟩) hBs).trans hc
  obtain ⟨A, cap, rfl, hrow⟩ := hI.below hW hn₀
  by_cases he : c = []
  · subst he
    exact (values1_nil_in F n h7 hro l Bs cap A J W hc' h0).mono fun e W' ⟨he, hj⟩ => ⟨he, .inl ⟨_, rfl, hj⟩⟩
  · obtain ⟨b, off, rfl, hb, hr⟩ := hrow he
    exact values1_in F n h7 hro hn l Bs n₀ b off cap c hlen hb J Jx (fun pre W1 o hj _ => hJ pre W1 _ none hj (World.grownBy_alloc W1 o none) (fun r e => by cases e)) hY W (Nat.le_trans hn₀ hW.size) hc' hr h0
end Go.Proofs.YtaanhddgmiggfaaGreat
