/- Cutting parts of slices. -/
import Derived.Test.YtaanhddgmiggfaaGreatRMath
import Derived.Test.YtaanhddgmiggfaaGreatRStep
import Derived.Test.YtaanhddgmiggfaaGreatKept
namespace Go.Proofs.YtaanhddgmiggfaaGreat.Ref
open Go.RowKit Go.Joins Go.Shelf Go.Sort Num

/-- A row that is nil where it is empty, or stands at a block's beginning. -/
def OutS (W : World) (v : Value) (L : List Buck) : Prop :=
  (v = .slice none 0 0 ∧ L = []) ∨ ∃ g cap, v = .slice (some ⟨g, 0, none⟩) L.length cap ∧ 0 < cap ∧ L.length ≤ cap ∧ g < W.heap.size ∧ Row W g 0 L
theorem OutS.nil (W : World) : OutS W (.slice none 0 0) [] := .inl ⟨rfl, rfl⟩
theorem OutS.keep {W W' : World} {v : Value} {L : List Buck} (h : OutS W v L) (hb : Below W.heap.size W W') : OutS W' v L := by
  rcases h with h | ⟨g, cap, h1, h2, h3, h4, h5⟩
  · exact .inl h
  · exact .inr ⟨g, cap, h1, h2, h3, Nat.lt_of_lt_of_le h4 hb.size, h5.below hb h4⟩
theorem OutS.form {W : World} {v : Value} {L : List Buck} (h : OutS W v L) : ∃ A cap, v = .slice A L.length cap := by
  rcases h with ⟨h1, h2⟩ | ⟨g, cap, h1, -⟩
  · subst h2; exact ⟨_, _, h1⟩
  · exact ⟨_, _, h1⟩
theorem OutS.sl {W : World} {v : Value} {L : List Buck} (h : OutS W v L) : Sl W.heap.size W v L := by
  rcases h with ⟨rfl, rfl⟩ | ⟨g, cap, rfl, -, -, h4, h5⟩
  · exact ⟨none, 0, rfl, fun k => absurd rfl k⟩
  · exact ⟨_, _, rfl, fun _ => ⟨g, 0, rfl, h4, h5⟩⟩
theorem OutS.isC {W : World} {A : Option Addr} {cap : Nat} {L : List Buck} (h : OutS W (.slice A L.length cap) L) : isC A cap L W := h.sl
theorem OutS.of_own {base : Nat} {W : World} {g cap : Nat} {L : List Buck} (h : W.ownsRow base 80 4 (.slice (some ⟨g, 0, none⟩) L.length cap) L.length (cellsOf L)) (hL : L ≠ []) : OutS W (.slice (some ⟨g, 0, none⟩) L.length cap) L := by
  obtain ⟨-, hlt⟩ := own_lt h
  have hc : L.length ≤ cap := by
    rcases h.2 with ⟨k, _⟩ | ⟨g', c', cur, k, _, _, hnc, _⟩
    · simp at k
    · simp only [Value.slice.injEq] at k; omega
  have hp := List.length_pos_iff.2 hL
  exact .inr ⟨g, cap, rfl, by omega, hc, hlt, row_of_holdsK (holdsK_of_own h)⟩
theorem OutS.of_own' {base : Nat} {W : World} {g l cap : Nat} {M : List Buck} {xs : List Value} (h : W.ownsRow base 80 4 (.slice (some ⟨g, 0, none⟩) l cap) l xs) (hl : l = M.length) (hx : xs = cellsOf M) (hM : M ≠ []) : OutS W (.slice (some ⟨g, 0, none⟩) l cap) M := by
  subst hl hx
  exact .of_own h hM
theorem row_take {W : World} {b off : Nat} {c : List Buck} (n : Nat) (h : Row W b off c) : Row W b off (c.take n) := fun j x hx => by
  refine h j x ?_
  rw [List.getElem?_take] at hx
  split at hx
  · exact hx
  · cases hx
theorem row_drop {W : World} {b off : Nat} {c : List Buck} (n : Nat) (h : Row W b off c) : Row W b (off + n * 4) (c.drop n) := fun j x hx => by
  rw [List.getElem?_drop] at hx
  have := h (n + j) x hx
  rwa [show off + (n + j) * 4 = off + n * 4 + j * 4 by rw [Nat.add_mul]; omega] at this
/-- The first n elements. -/
theorem cutC_to {W : World} {v : Value} {L : List Buck} (h : OutS W v L) (n : Nat) (hn : n ≤ L.length) :
    ∃ v', (∀ w : World, (Instr.slice 23 v none (some (.int .i64 ↑n)) none).run Tryz.prog w = .ok v' w) ∧ ∀ W' : World, Below W.heap.size W W' → Part W' v' n (cellsOf (L.take n)) := by
  rcases h with ⟨rfl, rfl⟩ | ⟨g, cap, rfl, h1, h2, h3, h4⟩
  · obtain rfl : n = 0 := by simpa using hn
    refine ⟨.slice none 0 0, fun w => ?_, fun _ _ => .inl ⟨rfl, rfl, rfl⟩⟩
    rw [run_slice_h w 23 _ 0 0 (by kernel_rfl) .i64 ((0 : Nat) : Int) (by omega) (by omega)]
    have e2 : (sizeOf (Tryz.prog.elem 23)).run Tryz.prog w = .ok 4 w := by kernel_rfl
    rw [e2]
    rfl
  · refine ⟨.slice (some ⟨g, 0, none⟩) n cap, fun w => ?_, fun W' hW => .inr ⟨_, _, rfl, row_cells ((row_take n h4).below hW h3)⟩⟩
    rw [run_slice_h w 23 _ L.length cap (by kernel_rfl) .i64 ↑n (by omega) (by omega)]
    have e2 : (sizeOf (Tryz.prog.elem 23)).run Tryz.prog w = .ok 4 w := by kernel_rfl
    rw [Int.toNat_natCast, e2]
    simp only [Result.andThen, sliced]
    simp [show ¬ cap = 0 by omega, Addr.add]
/-- The elements from n on. -/
theorem cutC_from {W : World} {v : Value} {L : List Buck} (h : OutS W v L) (n : Nat) (hn : n ≤ L.length) :
    ∃ v', (∀ w : World, (Instr.slice 23 v (some (.int .i64 ↑n)) none none).run Tryz.prog w = .ok v' w) ∧ ∀ W' : World, Below W.heap.size W W' → Part W' v' (L.length - n) (cellsOf (L.drop n)) := by
  rcases h with ⟨rfl, rfl⟩ | ⟨g, cap, rfl, h1, h2, h3, h4⟩
  · obtain rfl : n = 0 := by simpa using hn
    refine ⟨.slice none 0 0, fun w => ?_, fun _ _ => .inl ⟨rfl, rfl, rfl⟩⟩
    rw [run_slice_l w 23 _ 0 0 (by kernel_rfl) .i64 ((0 : Nat) : Int) (by omega) (by omega)]
    have e2 : (sizeOf (Tryz.prog.elem 23)).run Tryz.prog w = .ok 4 w := by kernel_rfl
    rw [e2]
    rfl
  · have e2 : ∀ w, (sizeOf (Tryz.prog.elem 23)).run Tryz.prog w = .ok 4 w := fun w => by kernel_rfl
    by_cases hc : cap = n
    · have hln : L.length = n := by omega
      refine ⟨.slice (some ⟨g, 0, none⟩) (L.length - n) (cap - n), fun w => ?_, fun W' hW => .inr ⟨_, _, rfl, fun j u hu => ?_⟩⟩
      · rw [run_slice_l w 23 _ L.length cap (by kernel_rfl) .i64 ↑n (by omega) (by omega), Int.toNat_natCast, e2]
        simp only [Result.andThen, sliced]
        simp [hc]
      · rw [List.drop_eq_nil_of_le (by omega)] at hu
        cases hu
    · refine ⟨.slice (some ⟨g, n * 4, none⟩) (L.length - n) (cap - n), fun w => ?_, fun W' hW => .inr ⟨_, _, rfl, row_cells ?_⟩⟩
      · rw [run_slice_l w 23 _ L.length cap (by kernel_rfl) .i64 ↑n (by omega) (by omega), Int.toNat_natCast, e2]
        simp only [Result.andThen, sliced]
        simp [hc, Addr.add]
        intro h; omega
      · have := row_drop n (h4.below hW h3)
        rwa [Nat.zero_add] at this
theorem eqlB_run {x y : Buck} (W : World) : Sem.run Tryz.prog (binOp .eql 80 (.agg #[.int .i64 x.b.num, .int .i64 x.b.den, .int .i64 x.r.num, .int .i64 x.r.den]) (.agg #[.int .i64 y.b.num, .int .i64 y.b.den, .int .i64 y.r.num, .int .i64 y.r.den])) W = .ok (.bool (decide (x = y))) W := by
  have hn : (x = y) ↔ (x.b.num = y.b.num ∧ (x.b.den : Int) = y.b.den ∧ x.r.num = y.r.num ∧ (x.r.den : Int) = y.r.den) := ⟨fun h => by rw [h]; exact ⟨rfl, rfl, rfl, rfl⟩, fun ⟨h1, h2, h3, h4⟩ => Buck.ext' (Rat.ext h1 (by omega)) (Rat.ext h3 (by omega))⟩
  simp only [hn]
  generalize x.b.num = a1
  generalize (x.b.den : Int) = a2
  generalize x.r.num = a3
  generalize (x.r.den : Int) = a4
  generalize y.b.num = b1
  generalize (y.b.den : Int) = b2
  generalize y.r.num = b3
  generalize (y.r.den : Int) = b4
  go_simp
  repeat' split
  all_goals (first | rfl | omega | (simp; omega) | (simp_all))
end Go.Proofs.YtaanhddgmiggfaaGreat.Ref
