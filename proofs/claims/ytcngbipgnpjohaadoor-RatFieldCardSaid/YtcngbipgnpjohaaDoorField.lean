/- The contracts of the closures of RatField, and the walk of the law. -/
import Derived.Test.YtcngbipgnpjohaaDoorFacts
import Derived.Deep.RegionHeld3
namespace Go.Proofs.YtcngbipgnpjohaaDoor.Field
open Go.RowKit Go.Joins Num

/-- A block of one cell that holds v. -/
structure Box (W : World) (b : Nat) (t : TypeId) (v : Value) : Prop where
  lt : b < W.heap.size
  h : W.heap[b]? = some (.cells #[v] t (0, 0))
theorem Box.keep {W W' : World} {b : Nat} {t : TypeId} {v : Value} (x : Box W b t v) (hb : Below W.heap.size W W') : Box W' b t v :=
  ⟨Nat.lt_of_lt_of_le x.lt hb.size, (hb.block b x.lt).trans x.h⟩
theorem Box.c {W : World} {b : Nat} {t : TypeId} {v : Value} (x : Box W b t v) : W.cell? ⟨b, 0, none⟩ = some v := (cell_of_block x.h 0).trans rfl
theorem Box.f {W : World} {b : Nat} {t : TypeId} {v : Value} (x : Box W b t v) : W.frozen? ⟨b, 0, none⟩ = false := unfrozen_of_block x.h 0
theorem Box.new (W : World) (t : TypeId) (v : Value) : Box (W.alloc (.cells #[v] t)) W.heap.size t v := ⟨by simp, (MapKept.heap_alloc W _).1⟩
theorem Box.alloc {W : World} {b : Nat} {t : TypeId} {v : Value} (x : Box W b t v) (o : Obj) : Box (W.alloc o) b t v := x.keep ((Below.refl _ _).alloc (Nat.le_refl _) _)

/-- Storing what a block holds already changes nothing. -/
theorem store_same {W : World} {b : Nat} {t : TypeId} {v : Value} (x : Box W b t v) : W.setCell ⟨b, 0, none⟩ v = W := by
  have h : (W.heap.modify b fun
      | .cells c elem frozen => .cells (if (⟨b, 0, none⟩ : Addr).spot.isSome then c else c.setIfInBounds (⟨b, 0, none⟩ : Addr).off v) elem frozen
      | o => o) = W.heap := by
    apply Array.ext_getElem?
    intro i
    rw [Array.getElem?_modify]
    split
    · subst_vars
      rw [x.h]
      rfl
    · rfl
  exact congrArg (fun hp => ({ W with heap := hp } : World)) h

set_option maxHeartbeats 1000000 in
theorem op_any (n d : Int) (bad : Nat) (w : World) (hb : Box w bad 24 (.int .i64 0)) :
    Calls Tryd.prog 26 #[.agg #[.int .i64 n, .int .i64 d], .int .i64 0, .pointer (some ⟨bad, 0, none⟩)] w fun e w' => e = .returned (.agg #[.int .i64 n, .int .i64 d]) ∧ Below w.heap.size w w' := by
  have c0 := hb.c
  have f0 := hb.f
  have lt := hb.lt
  go_enter Tryd.func26, Tryd.ntmps26
  go_wp2_with fail
  rw [store_same hb]
  refine bodyPost_ret (v := .agg #[.int .i64 n, .int .i64 d]) (by simp [results, Tryd.results26, go_sem]) rfl ⟨rfl, ?_⟩
  (repeat' (first | (with_reducible exact Below.refl _ _) | (with_reducible refine below_drewN ?_ _) | (with_reducible refine Below.drew ?_) | (with_reducible refine Below.setCell ?_ ?_ _) | (with_reducible refine Below.alloc ?_ ?_ _) | go_size))

/-- What stands while a closure's one statement runs: the two boxes, the captured variables, the cells of the result. -/
structure Inv (w : World) (opb bad B : Nat) (a b c d : Int) (W : World) : Prop where
  fr : Below w.heap.size w W
  op : Box W opb 39 (.func (.func 26) #[] #[.pointer (some ⟨bad, 0, none⟩)])
  bd : Box W bad 24 (.int .i64 0)
  x : Has W B a b
  y : Has W (B + 1) c d
  lt : B + 1 + 1 < W.heap.size
  res : ∃ p q : Int, W.heap[B + 1 + 1]? = some (.cells #[.int .i64 p, .int .i64 q] 23 (0, 0))
  hB : B = w.heap.size
  ho : opb < w.heap.size
  hbd : bad < w.heap.size

section
variable {w W W' : World} {opb bad B : Nat} {a b c d : Int}
theorem Inv.keep (s : Inv w opb bad B a b c d W) (hb : Below W.heap.size W W') : Inv w opb bad B a b c d W' :=
  ⟨s.fr.trans (hb.mono s.fr.size), s.op.keep hb, s.bd.keep hb, s.x.keep hb, s.y.keep hb, Nat.lt_of_lt_of_le s.lt hb.size, by obtain ⟨p, q, h⟩ := s.res; exact ⟨p, q, (hb.block _ s.lt).trans h⟩, s.hB, s.ho, s.hbd⟩
theorem Inv.drew (s : Inv w opb bad B a b c d W) : Inv w opb bad B a b c d W.drew := s.keep (Below.refl _ _).drew
theorem Inv.cells (s : Inv w opb bad B a b c d W) : ∃ p q : Int, W.cell? ⟨B + 1 + 1, 0, none⟩ = some (.int .i64 p) ∧ W.cell? ⟨B + 1 + 1, 1, none⟩ = some (.int .i64 q) ∧ W.frozen? ⟨B + 1 + 1, 0, none⟩ = false ∧ W.frozen? ⟨B + 1 + 1, 1, none⟩ = false := by
  obtain ⟨p, q, h⟩ := s.res
  exact ⟨p, q, (cell_of_block h 0).trans rfl, (cell_of_block h 1).trans rfl, unfrozen_of_block h 0, unfrozen_of_block h 1⟩
theorem Box.set {t : TypeId} {v : Value} {k : Nat} (x : Box W k t v) {e o : Nat} (h : k ≠ e) (u : Value) : Box (W.setCell ⟨e, o, none⟩ u) k t v :=
  ⟨by simpa using x.lt, (Below.heap_setCell W ⟨e, o, none⟩ u k h).trans x.h⟩
theorem hasSet {k : Nat} {n m : Int} (x : Has W k n m) {e o : Nat} (h : k ≠ e) (u : Value) : Has (W.setCell ⟨e, o, none⟩ u) k n m :=
  ⟨by simpa using x.lt, (World.cell?_of_block (a := ⟨k, 0, none⟩) (Below.heap_setCell W ⟨e, o, none⟩ u k h)).trans x.c0, (World.cell?_of_block (a := ⟨k, 1, none⟩) (Below.heap_setCell W ⟨e, o, none⟩ u k h)).trans x.c1⟩
theorem Inv.set (s : Inv w opb bad B a b c d W) (n m : Int) : Inv w opb bad B a b c d ((W.setCell ⟨B + 1 + 1, 0, none⟩ (.int .i64 n)).setCell ⟨B + 1 + 1, 1, none⟩ (.int .i64 m)) := by
  have h1 := s.ho
  have h2 := s.hbd
  have h3 := s.hB
  refine ⟨Below.setCell (Below.setCell s.fr (by show w.heap.size ≤ B + 1 + 1; omega) _) (by show w.heap.size ≤ B + 1 + 1; omega) _, (s.op.set (by omega) _).set (by omega) _, (s.bd.set (by omega) _).set (by omega) _, hasSet (hasSet s.x (by omega) _) (by omega) _, hasSet (hasSet s.y (by omega) _) (by omega) _, by simpa using s.lt, ⟨n, m, ?_⟩, h3, h1, h2⟩
  obtain ⟨p, q, h⟩ := s.res
  exact (block_setCell (block_setCell h _) _).trans rfl
theorem Inv.start (h1 : Box w bad 24 (.int .i64 0)) (h2 : Box w opb 39 (.func (.func 26) #[] #[.pointer (some ⟨bad, 0, none⟩)])) :
    Inv w opb bad w.heap.size a b c d (((w.alloc (.cells #[.int .i64 a, .int .i64 b] 23)).alloc (.cells #[.int .i64 c, .int .i64 d] 23)).alloc (.cells #[.int .i64 0, .int .i64 0] 23)) := by
  refine ⟨by (repeat' (first | (with_reducible exact Below.refl _ _) | (with_reducible refine below_drewN ?_ _) | (with_reducible refine Below.drew ?_) | (with_reducible refine Below.setCell ?_ ?_ _) | (with_reducible refine Below.alloc ?_ ?_ _) | go_size)), ((h2.alloc _).alloc _).alloc _, ((h1.alloc _).alloc _).alloc _, ((Has.new w a b _).alloc _).alloc _, ?_, ?_, ⟨0, 0, ?_⟩, rfl, h2.lt, h1.lt⟩
  · simpa only [World.size_alloc] using (Has.new (w.alloc (.cells #[.int .i64 a, .int .i64 b] 23)) c d _).alloc _
  · simp only [World.size_alloc]; omega
  · simpa only [World.size_alloc] using (MapKept.heap_alloc ((w.alloc (.cells #[.int .i64 a, .int .i64 b] 23)).alloc (.cells #[.int .i64 c, .int .i64 d] 23)) (.cells #[.int .i64 0, .int .i64 0] 23)).1
end

theorem heap_set_at (W : World) (e o : Nat) (v : Value) : (W.setCell ⟨e, o, none⟩ v).heap[e]? = (W.heap[e]?).map fun
    | .cells c t fr => .cells (c.setIfInBounds o v) t fr
    | o => o := by
  show (W.heap.modify e _)[e]? = _
  rw [Array.getElem?_modify, if_pos rfl]
  rfl
theorem set_reads {W : World} {e : Nat} {v u x y : Value} {t : TypeId} {fr : Nat × Nat} (h : ((W.setCell ⟨e, 0, none⟩ v).setCell ⟨e, 1, none⟩ u).heap[e]? = some (.cells #[x, y] t fr)) :
    ((W.setCell ⟨e, 0, none⟩ v).setCell ⟨e, 1, none⟩ u).cell? ⟨e, 0, none⟩ = some v ∧ ((W.setCell ⟨e, 0, none⟩ v).setCell ⟨e, 1, none⟩ u).cell? ⟨e, 1, none⟩ = some u := by
  have h0 := cell_of_block h 0
  have h1 := cell_of_block h 1
  rw [h0, h1]
  rw [heap_set_at, heap_set_at] at h
  cases hW : W.heap[e]? with
  | none => rw [hW] at h; cases h
  | some ob =>
    rw [hW] at h
    cases ob with
    | cells c t' fr' =>
      simp only [Option.map_some, Option.some.injEq, Obj.cells.injEq] at h
      have hc := h.1
      have hs : c.size = 2 := by have := congrArg Array.size hc; simpa using this
      have e0 : ((c.setIfInBounds 0 v).setIfInBounds 1 u)[0]? = some x := by rw [hc]; rfl
      have e1 : ((c.setIfInBounds 0 v).setIfInBounds 1 u)[1]? = some y := by rw [hc]; rfl
      simp [hs] at e0 e1
      exact ⟨by rw [e0]; rfl, by rw [e1]; rfl⟩
    | _ => simp at h

set_option maxHeartbeats 2000000 in
set_option maxRecDepth 100000 in
theorem add_cl (a b c d p q : Int) (bad opb : Nat) (w : World) (h1 : Box w bad 24 (.int .i64 0)) (h2 : Box w opb 39 (.func (.func 26) #[] #[.pointer (some ⟨bad, 0, none⟩)])) (hv : addN a b c d = (p, q, 0))
    (a0 : -9223372036854775808 ≤ a) (a1 : a ≤ 9223372036854775807) (b0 : -9223372036854775808 ≤ b) (b1 : b ≤ 9223372036854775807) (c0 : -9223372036854775808 ≤ c) (c1 : c ≤ 9223372036854775807) (d0 : -9223372036854775808 ≤ d) (d1 : d ≤ 9223372036854775807) :
    Calls Tryd.prog 27 #[.agg #[.int .i64 a, .int .i64 b], .agg #[.int .i64 c, .int .i64 d], .pointer (some ⟨opb, 0, none⟩)] w fun e w' => e = .returned (.agg #[.int .i64 p, .int .i64 q]) ∧ Below w.heap.size w w' := by
  have Hv := Lib.hid hv
  have I0 := Inv.start (a := a) (b := b) (c := c) (d := d) h1 h2
  clear hv h1 h2
  obtain ⟨B, hB⟩ : ∃ B, B = w.heap.size := ⟨_, rfl⟩
  rw [← hB] at I0
  obtain ⟨W0, hW0⟩ : ∃ W0, W0 = ((w.alloc (.cells #[.int .i64 a, .int .i64 b] 23)).alloc (.cells #[.int .i64 c, .int .i64 d] 23)).alloc (.cells #[.int .i64 0, .int .i64 0] 23) := ⟨_, rfl⟩
  rw [← hW0] at I0
  have HB := Lib.hid hB
  have HW := Lib.hid hW0
  clear hB hW0
  go_enter Tryd.func27, Tryd.ntmps27
  go_wp2_with fail
  rw [← HW.out, ← HB.out]
  go_region_held3 (fun w' => w'.cell? ⟨opb, 0, none⟩ = some (.func (.func 26) #[] #[.pointer (some ⟨bad, 0, none⟩)]) ∧ w'.cell? ⟨B, 0, none⟩ = some (.int .i64 a) ∧ w'.cell? ⟨B, 1, none⟩ = some (.int .i64 b) ∧ w'.cell? ⟨B + 1, 0, none⟩ = some (.int .i64 c) ∧ w'.cell? ⟨B + 1, 1, none⟩ = some (.int .i64 d) ∧ Inv w opb bad B a b c d w')
    (first
      | exact ⟨I0.op.c, I0.x.c0, I0.x.c1, I0.y.c0, I0.y.c1, I0⟩
      | exact ⟨I0.drew.op.c, I0.drew.x.c0, I0.drew.x.c1, I0.drew.y.c0, I0.drew.y.c1, I0.drew⟩
      | exact ⟨(I2.set _ _).op.c, (I2.set _ _).x.c0, (I2.set _ _).x.c1, (I2.set _ _).y.c0, (I2.set _ _).y.c1, I2.set _ _⟩
      | exact ⟨I2.op.c, I2.x.c0, I2.x.c1, I2.y.c0, I2.y.c1, I2⟩
      | exact ⟨I1.op.c, I1.x.c0, I1.x.c1, I1.y.c0, I1.y.c1, I1⟩)
    (first
      | (go_at_call 19; go_split_ands; refine (add_any a b c d _ a0 a1 b0 b1 c0 c1 d0 d1).mono ?_; rintro e w1 ⟨rfl, hb⟩; rw [Hv.out]; simp only [ratV]; have I1 := Inv.keep (by assumption) hb)
      | (go_at_call 26; go_split_ands; refine (op_any p q bad _ (Inv.bd (w := w) (opb := opb) (B := B) (a := a) (b := b) (c := c) (d := d) (by assumption))).mono ?_; rintro e w2 ⟨rfl, hb⟩; have I2 := Inv.keep (w := w) (opb := opb) (bad := bad) (B := B) (a := a) (b := b) (c := c) (d := d) (by assumption) hb; obtain ⟨m1, m2, z1, z2, z3, z4⟩ := I2.cells))
  go_split_ands
  obtain ⟨m1, m2, hr⟩ := Inv.res (w := w) (opb := opb) (bad := bad) (B := B) (a := a) (b := b) (c := c) (d := d) (by assumption)
  obtain ⟨y1, y2⟩ := set_reads hr
  have fr := Inv.fr (w := w) (opb := opb) (bad := bad) (B := B) (a := a) (b := b) (c := c) (d := d) (by assumption)
  clear hr
  go_wp2
  refine bodyPost_ret (v := .agg #[.int .i64 p, .int .i64 q]) (by simp [results, Tryd.results27, go_sem, y1, y2]) rfl ⟨rfl, fr⟩

set_option maxHeartbeats 2000000 in
set_option maxRecDepth 100000 in
theorem mul_cl (a b c d p q : Int) (bad opb : Nat) (w : World) (h1 : Box w bad 24 (.int .i64 0)) (h2 : Box w opb 39 (.func (.func 26) #[] #[.pointer (some ⟨bad, 0, none⟩)])) (hv : mulN a b c d = (p, q, 0))
    (a0 : -9223372036854775808 ≤ a) (a1 : a ≤ 9223372036854775807) (b0 : -9223372036854775808 ≤ b) (b1 : b ≤ 9223372036854775807) (c0 : -9223372036854775808 ≤ c) (c1 : c ≤ 9223372036854775807) (d0 : -9223372036854775808 ≤ d) (d1 : d ≤ 9223372036854775807) :
    Calls Tryd.prog 28 #[.agg #[.int .i64 a, .int .i64 b], .agg #[.int .i64 c, .int .i64 d], .pointer (some ⟨opb, 0, none⟩)] w fun e w' => e = .returned (.agg #[.int .i64 p, .int .i64 q]) ∧ Below w.heap.size w w' := by
  have Hv := Lib.hid hv
  have I0 := Inv.start (a := a) (b := b) (c := c) (d := d) h1 h2
  clear hv h1 h2
  obtain ⟨B, hB⟩ : ∃ B, B = w.heap.size := ⟨_, rfl⟩
  rw [← hB] at I0
  obtain ⟨W0, hW0⟩ : ∃ W0, W0 = ((w.alloc (.cells #[.int .i64 a, .int .i64 b] 23)).alloc (.cells #[.int .i64 c, .int .i64 d] 23)).alloc (.cells #[.int .i64 0, .int .i64 0] 23) := ⟨_, rfl⟩
  rw [← hW0] at I0
  have HB := Lib.hid hB
  have HW := Lib.hid hW0
  clear hB hW0
  go_enter Tryd.func28, Tryd.ntmps28
  go_wp2_with fail
  rw [← HW.out, ← HB.out]
  go_region_held3 (fun w' => w'.cell? ⟨opb, 0, none⟩ = some (.func (.func 26) #[] #[.pointer (some ⟨bad, 0, none⟩)]) ∧ w'.cell? ⟨B, 0, none⟩ = some (.int .i64 a) ∧ w'.cell? ⟨B, 1, none⟩ = some (.int .i64 b) ∧ w'.cell? ⟨B + 1, 0, none⟩ = some (.int .i64 c) ∧ w'.cell? ⟨B + 1, 1, none⟩ = some (.int .i64 d) ∧ Inv w opb bad B a b c d w')
    (first
      | exact ⟨I0.op.c, I0.x.c0, I0.x.c1, I0.y.c0, I0.y.c1, I0⟩
      | exact ⟨I0.drew.op.c, I0.drew.x.c0, I0.drew.x.c1, I0.drew.y.c0, I0.drew.y.c1, I0.drew⟩
      | exact ⟨(I2.set _ _).op.c, (I2.set _ _).x.c0, (I2.set _ _).x.c1, (I2.set _ _).y.c0, (I2.set _ _).y.c1, I2.set _ _⟩
      | exact ⟨I2.op.c, I2.x.c0, I2.x.c1, I2.y.c0, I2.y.c1, I2⟩
      | exact ⟨I1.op.c, I1.x.c0, I1.x.c1, I1.y.c0, I1.y.c1, I1⟩)
    (first
      | (go_at_call 21; go_split_ands; refine (mul_any a b c d _ a0 a1 b0 b1 c0 c1 d0 d1).mono ?_; rintro e w1 ⟨rfl, hb⟩; rw [Hv.out]; simp only [ratV]; have I1 := Inv.keep (by assumption) hb)
      | (go_at_call 26; go_split_ands; refine (op_any p q bad _ (Inv.bd (w := w) (opb := opb) (B := B) (a := a) (b := b) (c := c) (d := d) (by assumption))).mono ?_; rintro e w2 ⟨rfl, hb⟩; have I2 := Inv.keep (w := w) (opb := opb) (bad := bad) (B := B) (a := a) (b := b) (c := c) (d := d) (by assumption) hb; obtain ⟨m1, m2, z1, z2, z3, z4⟩ := I2.cells))
  go_split_ands
  obtain ⟨m1, m2, hr⟩ := Inv.res (w := w) (opb := opb) (bad := bad) (B := B) (a := a) (b := b) (c := c) (d := d) (by assumption)
  obtain ⟨y1, y2⟩ := set_reads hr
  have fr := Inv.fr (w := w) (opb := opb) (bad := bad) (B := B) (a := a) (b := b) (c := c) (d := d) (by assumption)
  clear hr
  go_wp2
  refine bodyPost_ret (v := .agg #[.int .i64 p, .int .i64 q]) (by simp [results, Tryd.results28, go_sem, y1, y2]) rfl ⟨rfl, fr⟩

end Go.Proofs.YtcngbipgnpjohaaDoor.Field
