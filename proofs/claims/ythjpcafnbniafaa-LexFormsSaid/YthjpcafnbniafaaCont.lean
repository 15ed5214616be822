/- The contract of continues; a scanner's block. (Written by genpass.py.) -/
import Derived.Test.YthjpcafnbniafaaCl
namespace Go.Proofs.Ythjpcafnbniafaa
open Go.RowKit Go.Joins

def blanksL : List (BitVec 8) := [32#8, 9#8, 10#8, 13#8]
def signsL : List (BitVec 8) := [123#8, 125#8, 59#8, 44#8, 46#8, 58#8]
theorem blanks_eq (c : BitVec 8) : oneOf blanksL c = isBlank c := by
  simp only [oneOf, blanksL, isBlank, List.any_cons, List.any_nil, Bool.or_false, BEq.comm (a := c), Bool.or_assoc]
theorem signs_eq (c : BitVec 8) : oneOf signsL c = isSgn c := by
  simp only [oneOf, signsL, isSgn, List.any_cons, List.any_nil, Bool.or_false, BEq.comm (a := c), Bool.or_assoc]

/-- A scanner's block, and the boxes of its classes. -/
structure ScB (W : World) (b f1 f2 : Nat) (l : List (BitVec 8)) (k : Nat) : Prop where
  s : BoxN W b 60 (scC (bstr l) k f1 f2)
  x1 : BoxN W f1 9 #[.string (bstr blanksL)]
  x2 : BoxN W f2 9 #[.string (bstr signsL)]
  n1 : f1 ≠ b
  n2 : f2 ≠ b
section
variable {W : World} {b f1 f2 k : Nat} {l : List (BitVec 8)}
theorem ScB.lt (h : ScB W b f1 f2 l k) : b < W.heap.size := h.s.lt
theorem ScB.c0 (h : ScB W b f1 f2 l k) : W.cell? ⟨b, 0, none⟩ = some (.string (bstr l)) := (h.s.cell 0).trans rfl
theorem ScB.c1 (h : ScB W b f1 f2 l k) : W.cell? ⟨b, 1, none⟩ = some (.int .i64 k) := (h.s.cell 1).trans rfl
theorem ScB.c2 (h : ScB W b f1 f2 l k) : W.cell? ⟨b, 2, none⟩ = some (.func (.func 43) #[] #[.pointer (some ⟨f1, 0, none⟩)]) := (h.s.cell 2).trans rfl
theorem ScB.c3 (h : ScB W b f1 f2 l k) : W.cell? ⟨b, 3, none⟩ = some (.func (.func 37) #[] #[]) := (h.s.cell 3).trans rfl
theorem ScB.c4 (h : ScB W b f1 f2 l k) : W.cell? ⟨b, 4, none⟩ = some (.func (.func 38) #[] #[]) := (h.s.cell 4).trans rfl
theorem ScB.c5 (h : ScB W b f1 f2 l k) : W.cell? ⟨b, 5, none⟩ = some (.func (.func 43) #[] #[.pointer (some ⟨f2, 0, none⟩)]) := (h.s.cell 5).trans rfl
theorem ScB.fz (h : ScB W b f1 f2 l k) : W.frozen? ⟨b, 1, none⟩ = false := h.s.frozen 1
theorem ScB.drewN (h : ScB W b f1 f2 l k) (n : Nat) : ScB (W.drewN n) b f1 f2 l k := ⟨h.s.drewN n, h.x1.drewN n, h.x2.drewN n, h.n1, h.n2⟩
theorem ScB.keep {W' : World} (h : ScB W b f1 f2 l k) (hb : Below W.heap.size W W') : ScB W' b f1 f2 l k := ⟨h.s.keep hb, h.x1.keep hb, h.x2.keep hb, h.n1, h.n2⟩
theorem ScB.move (h : ScB W b f1 f2 l k) (j : Nat) : ScB (W.setCell ⟨b, 1, none⟩ (.int .i64 j)) b f1 f2 l j :=
  ⟨(h.s.set1 1 (.int .i64 j)), h.x1.far (by exact h.n1) _, h.x2.far (by exact h.n2) _, h.n1, h.n2⟩
end
theorem Tn.drewN {B : Nat} {w w' : World} (h : Tn B w w') (n : Nat) : Tn B w (w'.drewN n) :=
  ⟨fun n0 hn => below_drewN (h.below n0 hn) n, fun k hk => h.far k hk⟩
theorem Tn.trans {B : Nat} {w w1 w2 : World} (h : Tn B w w1) (h2 : Tn B w1 w2) : Tn B w w2 :=
  ⟨fun n0 hn => (h.below n0 hn).trans (h2.below n0 hn), fun k hk => (h2.far k hk).trans (h.far k hk)⟩

set_option maxRecDepth 100000 in
set_option maxHeartbeats 1000000 in
theorem continues_any (l : List (BitVec 8)) (b f1 f2 k : Nat) (c : BitVec 8) (w : World) (hs : ScB w b f1 f2 l k) :
    Calls Try.prog 48 #[.pointer (some ⟨b, 0, none⟩), U8 c] w fun e w' => e = .returned (.bool (isIn c)) ∧ ∃ m, w' = w.drewN m := by
  have c3 := hs.c3
  have c4 := hs.c4
  obtain ⟨x1, h1⟩ : ∃ x, isLet c = x := ⟨_, rfl⟩
  obtain ⟨x2, h2⟩ : ∃ x, isDig c = x := ⟨_, rfl⟩
  obtain ⟨x3, h3⟩ : ∃ x, ((c.toNat : Int) == 95) = x := ⟨_, rfl⟩
  have hI : Hid (isIn c = (x1 || x2 || x3)) := by
    unfold Hid isIn
    have := beq_bv c 95#8
    rw [show (((95#8 : BitVec 8)).toNat : Int) = 95 from rfl, h3] at this
    rw [h1, h2, this]; rfl
  have hL : Hid (∀ W : World, _) := fun W => let_any c W
  have hD : Hid (∀ W : World, _) := fun W => dig_any c W
  rw [h1] at hL
  rw [h2] at hD
  generalize isIn c = r at hI ⊢
  clear hs h1 h2
  go_enter Try.func48, Try.ntmps48
  cases x1 <;> cases x2 <;> cases x3
  all_goals
    go_wp2_with fail
    (with_reducible refine (hL.out _).mono ?_); rintro e w1 ⟨rfl, rfl⟩
    go_wp2_with fail
    try ((with_reducible refine (hD.out _).mono ?_); rintro e w1 ⟨rfl, rfl⟩; go_wp2_with fail)
    go_ret
    exact ⟨by rw [hI.out]; rfl, 0, rfl⟩
end Go.Proofs.Ythjpcafnbniafaa
