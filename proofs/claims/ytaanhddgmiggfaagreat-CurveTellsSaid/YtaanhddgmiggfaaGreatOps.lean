/- Contracts of the four operations of rat: the closures, apply, Add, Sub, Mul, Div. -/
import Derived.Test.YtaanhddgmiggfaaGreatMake
import Derived.Carry
namespace Go.Proofs.YtaanhddgmiggfaaGreat
open Go.RowKit

theorem mulb {a b : Int} (a0 : -1073741824 ≤ a) (a1 : a ≤ 1073741824) (b0 : -1073741824 ≤ b) (b1 : b ≤ 1073741824) : -1152921504606846976 ≤ a * b ∧ a * b ≤ 1152921504606846976 := by
  have h : (a * b).natAbs ≤ 1073741824 * 1073741824 := by rw [Int.natAbs_mul]; exact Nat.mul_le_mul (by omega) (by omega)
  omega

/-- A map literal's next entry, in the block made last. -/
theorem put_new {P : Program} {t k e : TypeId} {q : IntKind} (ht : P.underlying t = some (.map k e)) (hk : P.underlying k = some (.int q)) (W : World) (es : Array MapEntry) (c : Nat) (x : Int) (v : Value)
    (hf : Instr.findNow (.int q) (.int q x) es.toList 0 = some none) :
    (Instr.mapUpdate t (.map (some W.heap.size)) (.int q x) v).run P (W.alloc (.map es c)) = .ok () (W.alloc (.map (es.push { key := .int q x, val := v, born := c }) (c + 1))) := by
  have hh : (W.alloc (.map es c)).heap[W.heap.size]? = some (.map es c) := (MapKept.heap_alloc W _).1
  have hs : ({ W.alloc (.map es c) with heap := (W.alloc (.map es c)).heap.setIfInBounds W.heap.size (.map (es.push { key := .int q x, val := v, born := c }) (c + 1)) } : World) = W.alloc (.map (es.push { key := .int q x, val := v, born := c }) (c + 1)) := by
    simp only [World.alloc, World.mk.injEq, and_true]
    apply Array.ext_getElem?
    intro i
    simp only [Array.getElem?_setIfInBounds, Array.getElem?_push, Array.size_push]
    by_cases hi : i = W.heap.size
    · subst hi; simp
    · simp [hi, Ne.symm hi]
  have hkey : MapKept.IsKey (.int q) (.int q x) := by simp [MapKept.IsKey]
  simp [Instr.mapUpdate, run_underlying ht, MapKept.run_getObj_map hh, MapKept.run_checkKey hk hkey, MapKept.run_findKey hk hf, MapKept.run_setObj_map _ hh, Result.andThen]
  exact hs
/-- A look-up in it. -/
theorem get_new {P : Program} {t k e : TypeId} {q : IntKind} (ht : P.underlying t = some (.map k e)) (hk : P.underlying k = some (.int q)) (W : World) (es : Array MapEntry) (c : Nat) (x : Int) (i : Nat) (v : Value)
    (hf : Instr.findNow (.int q) (.int q x) es.toList 0 = some (some (i, v))) :
    (Instr.lookup t (.map (some W.heap.size)) (.int q x) false).run P (W.alloc (.map es c)) = .ok v (W.alloc (.map es c)) := by
  have hh : (W.alloc (.map es c)).heap[W.heap.size]? = some (.map es c) := (MapKept.heap_alloc W _).1
  have hkey : MapKept.IsKey (.int q) (.int q x) := by simp [MapKept.IsKey]
  simp [Instr.lookup, run_underlying ht, MapKept.run_getObj_map hh, MapKept.run_checkKey hk hkey, MapKept.run_findKey hk hf, Result.andThen]
def fnV (f : Nat) : Value := .func (.func f) #[] #[]
def mapE0 : Array MapEntry := #[]
def mapE1 : Array MapEntry := mapE0.push { key := .int .u8 43, val := fnV 129, born := 0 }
def mapE2 : Array MapEntry := mapE1.push { key := .int .u8 45, val := fnV 130, born := 1 }
def mapE3 : Array MapEntry := mapE2.push { key := .int .u8 42, val := fnV 131, born := 2 }
def mapE4 : Array MapEntry := mapE3.push { key := .int .u8 47, val := fnV 132, born := 3 }
theorem map_put1 (W : World) : (Instr.mapUpdate 167 (.map (some W.heap.size)) (.int .u8 43) (.func (.func 129) #[] #[])).run Tryz.prog (W.alloc (.map #[] 0)) = .ok () (W.alloc (.map mapE1 1)) :=
  put_new Tryz.underlying167 Tryz.underlying5 W mapE0 0 43 _ (by kernel_rfl)
theorem map_put2 (W : World) : (Instr.mapUpdate 167 (.map (some W.heap.size)) (.int .u8 45) (.func (.func 130) #[] #[])).run Tryz.prog (W.alloc (.map mapE1 1)) = .ok () (W.alloc (.map mapE2 2)) :=
  put_new Tryz.underlying167 Tryz.underlying5 W mapE1 1 45 _ (by kernel_rfl)
theorem map_put3 (W : World) : (Instr.mapUpdate 167 (.map (some W.heap.size)) (.int .u8 42) (.func (.func 131) #[] #[])).run Tryz.prog (W.alloc (.map mapE2 2)) = .ok () (W.alloc (.map mapE3 3)) :=
  put_new Tryz.underlying167 Tryz.underlying5 W mapE2 2 42 _ (by kernel_rfl)
theorem map_put4 (W : World) : (Instr.mapUpdate 167 (.map (some W.heap.size)) (.int .u8 47) (.func (.func 132) #[] #[])).run Tryz.prog (W.alloc (.map mapE3 3)) = .ok () (W.alloc (.map mapE4 4)) :=
  put_new Tryz.underlying167 Tryz.underlying5 W mapE3 3 47 _ (by kernel_rfl)
theorem map_get_add (W : World) : (Instr.lookup 167 (.map (some W.heap.size)) (.int .u8 43) false).run Tryz.prog (W.alloc (.map mapE4 4)) = .ok (.func (.func 129) #[] #[]) (W.alloc (.map mapE4 4)) :=
  get_new Tryz.underlying167 Tryz.underlying5 W mapE4 4 43 0 _ (by kernel_rfl)
theorem map_get_sub (W : World) : (Instr.lookup 167 (.map (some W.heap.size)) (.int .u8 45) false).run Tryz.prog (W.alloc (.map mapE4 4)) = .ok (.func (.func 130) #[] #[]) (W.alloc (.map mapE4 4)) :=
  get_new Tryz.underlying167 Tryz.underlying5 W mapE4 4 45 1 _ (by kernel_rfl)
theorem map_get_mul (W : World) : (Instr.lookup 167 (.map (some W.heap.size)) (.int .u8 42) false).run Tryz.prog (W.alloc (.map mapE4 4)) = .ok (.func (.func 131) #[] #[]) (W.alloc (.map mapE4 4)) :=
  get_new Tryz.underlying167 Tryz.underlying5 W mapE4 4 42 2 _ (by kernel_rfl)
theorem map_get_div (W : World) : (Instr.lookup 167 (.map (some W.heap.size)) (.int .u8 47) false).run Tryz.prog (W.alloc (.map mapE4 4)) = .ok (.func (.func 132) #[] #[]) (W.alloc (.map mapE4 4)) :=
  get_new Tryz.underlying167 Tryz.underlying5 W mapE4 4 47 3 _ (by kernel_rfl)
theorem cell_map (W : World) (b o : Nat) (m : Array MapEntry) (c : Nat) (h : b < W.heap.size) : (W.alloc (.map m c)).cell? ⟨b, o, none⟩ = W.cell? ⟨b, o, none⟩ := World.cell?_of_block (w := W) (Below.heap_alloc W _ b h)
theorem frozen_map (W : World) (b o : Nat) (m : Array MapEntry) (c : Nat) (h : b < W.heap.size) : (W.alloc (.map m c)).frozen? ⟨b, o, none⟩ = W.frozen? ⟨b, o, none⟩ := World.frozen?_of_block (w := W) (Below.heap_alloc W _ b h)
theorem ret_two {k l : IntKind} {a b c d : Int} (h : a = b) (g : c = d) : Ending.returned (.tuple #[.int k a, .int l c]) = .returned (.tuple #[.int k b, .int l d]) := by rw [h, g]

set_option maxHeartbeats 1000000 in
theorem op_add (a b c d : Int) (w : World) (a0 : -1073741824 ≤ a) (a1 : a ≤ 1073741824) (b0 : -1073741824 ≤ b) (b1 : b ≤ 1073741824) (c0 : -1073741824 ≤ c) (c1 : c ≤ 1073741824) (d0 : -1073741824 ≤ d) (d1 : d ≤ 1073741824) :
    Calls Tryz.prog 129 #[.agg #[.int .i64 a, .int .i64 b], .agg #[.int .i64 c, .int .i64 d]] w fun e w' => e = .returned (.tuple #[.int .i64 (a * d + c * b), .int .i64 (b * d)]) ∧ Below w.heap.size w w' := by
  have h1 := mulb a0 a1 d0 d1
  have h2 := mulb c0 c1 b0 b1
  have h3 := mulb b0 b1 d0 d1
  go_enter Tryz.func129, Tryz.ntmps129
  go_wp2_with fail
  go_quiet (fail)
  go_wp2
  go_returns
  exact ⟨rfl, by (repeat' (first | (with_reducible exact Below.refl _ _) | (with_reducible refine below_drewN ?_ _) | (with_reducible refine Below.drew ?_) | (with_reducible refine Below.setCell ?_ ?_ _) | (with_reducible refine Below.alloc ?_ ?_ _) | go_size))⟩

set_option maxHeartbeats 1000000 in
theorem op_sub (a b c d : Int) (w : World) (a0 : -1073741824 ≤ a) (a1 : a ≤ 1073741824) (b0 : -1073741824 ≤ b) (b1 : b ≤ 1073741824) (c0 : -1073741824 ≤ c) (c1 : c ≤ 1073741824) (d0 : -1073741824 ≤ d) (d1 : d ≤ 1073741824) :
    Calls Tryz.prog 130 #[.agg #[.int .i64 a, .int .i64 b], .agg #[.int .i64 c, .int .i64 d]] w fun e w' => e = .returned (.tuple #[.int .i64 (a * d - c * b), .int .i64 (b * d)]) ∧ Below w.heap.size w w' := by
  have h1 := mulb a0 a1 d0 d1
  have h2 := mulb c0 c1 b0 b1
  have h3 := mulb b0 b1 d0 d1
  go_enter Tryz.func130, Tryz.ntmps130
  go_wp2_with fail
  go_quiet (fail)
  go_wp2
  go_returns
  exact ⟨rfl, by (repeat' (first | (with_reducible exact Below.refl _ _) | (with_reducible refine below_drewN ?_ _) | (with_reducible refine Below.drew ?_) | (with_reducible refine Below.setCell ?_ ?_ _) | (with_reducible refine Below.alloc ?_ ?_ _) | go_size))⟩

set_option maxHeartbeats 1000000 in
theorem op_mul (a b c d : Int) (w : World) (a0 : -1073741824 ≤ a) (a1 : a ≤ 1073741824) (b0 : -1073741824 ≤ b) (b1 : b ≤ 1073741824) (c0 : -1073741824 ≤ c) (c1 : c ≤ 1073741824) (d0 : -1073741824 ≤ d) (d1 : d ≤ 1073741824) :
    Calls Tryz.prog 131 #[.agg #[.int .i64 a, .int .i64 b], .agg #[.int .i64 c, .int .i64 d]] w fun e w' => e = .returned (.tuple #[.int .i64 (a * c), .int .i64 (b * d)]) ∧ Below w.heap.size w w' := by
  have h1 := mulb a0 a1 c0 c1
  have h3 := mulb b0 b1 d0 d1
  go_enter Tryz.func131, Tryz.ntmps131
  go_wp2_with fail
  go_quiet (fail)
  go_wp2
  go_returns
  exact ⟨rfl, by (repeat' (first | (with_reducible exact Below.refl _ _) | (with_reducible refine below_drewN ?_ _) | (with_reducible refine Below.drew ?_) | (with_reducible refine Below.setCell ?_ ?_ _) | (with_reducible refine Below.alloc ?_ ?_ _) | go_size))⟩

set_option maxHeartbeats 1000000 in
theorem op_div (a b c d : Int) (w : World) (a0 : -1073741824 ≤ a) (a1 : a ≤ 1073741824) (b0 : -1073741824 ≤ b) (b1 : b ≤ 1073741824) (c0 : -1073741824 ≤ c) (c1 : c ≤ 1073741824) (d0 : -1073741824 ≤ d) (d1 : d ≤ 1073741824) :
    Calls Tryz.prog 132 #[.agg #[.int .i64 a, .int .i64 b], .agg #[.int .i64 c, .int .i64 d]] w fun e w' => e = .returned (.tuple #[.int .i64 (a * d), .int .i64 (b * c)]) ∧ Below w.heap.size w w' := by
  have h1 := mulb a0 a1 d0 d1
  have h3 := mulb b0 b1 c0 c1
  go_enter Tryz.func132, Tryz.ntmps132
  go_wp2_with fail
  go_quiet (fail)
  go_wp2
  go_returns
  exact ⟨rfl, by (repeat' (first | (with_reducible exact Below.refl _ _) | (with_reducible refine below_drewN ?_ _) | (with_reducible refine Below.drew ?_) | (with_reducible refine Below.setCell ?_ ?_ _) | (with_reducible refine Below.alloc ?_ ?_ _) | go_size))⟩

set_option maxHeartbeats 1000000 in
/-- apply at two valid numbers: the closure that its table gives, then Make. -/
theorem apply_add (a b c d : Int) (w : World) (hx : vldB a b = true) (hy : vldB c d = true) :
    Calls Tryz.prog 99 #[.int .u8 43, .agg #[.int .i64 a, .int .i64 b], .agg #[.int .i64 c, .int .i64 d]] w fun e w' => e = .returned (ratV (mkN (a * d + c * b) (b * d))) ∧ Below w.heap.size w w' := by
  obtain ⟨b0, b1, a0, a1, -⟩ := vld_bd hx
  obtain ⟨d0, d1, c0, c1, -⟩ := vld_bd hy
  have Hx := Lib.hid hx
  have Hy := Lib.hid hy
  clear hx hy
  have hp : Hid (-9223372036854775808 ≤ a * d + c * b ∧ a * d + c * b ≤ 9223372036854775807) := by
    have h1 := mulb a0 a1 (show -1073741824 ≤ d by omega) d1
    have h2 := mulb c0 c1 (show -1073741824 ≤ b by omega) b1
    have h3 := mulb a0 a1 c0 c1
    exact ⟨by omega, by omega⟩
  have hq : Hid (-9223372036854775808 ≤ b * d ∧ b * d ≤ 9223372036854775807) := by
    have h1 := mulb (show -1073741824 ≤ b by omega) b1 (show -1073741824 ≤ d by omega) d1
    have h2 := mulb (show -1073741824 ≤ b by omega) b1 c0 c1
    exact ⟨by omega, by omega⟩
  obtain ⟨p, Hp⟩ : ∃ p, Hid (p = a * d + c * b) := ⟨_, rfl⟩
  obtain ⟨q, Hq⟩ : ∃ q, Hid (q = b * d) := ⟨_, rfl⟩
  rw [← Hp.out] at hp
  rw [← Hq.out] at hq
  rw [← Hp.out, ← Hq.out]
  have mm := @run_makeMap Tryz.prog
  have m1 := @map_put1
  have m2 := @map_put2
  have m3 := @map_put3
  have m4 := @map_put4
  have ml := @map_get_add
  have cm := @cell_map
  go_enter Tryz.func99, Tryz.ntmps99
  go_wp2_with fail
  refine (valid_any a b _ (by omega) (by omega) (by omega) (by omega)).mono ?_; rintro e w1 ⟨rfl, hb1⟩; rw [Hx.out]
  obtain ⟨hc, hf⟩ := bcell hb1
  have hz := hb1.size
  simp only [World.size_alloc] at hc hf hz
  go_wp2_with fail
  refine (valid_any c d _ (by omega) (by omega) (by omega) (by omega)).mono ?_; rintro e w2 ⟨rfl, hb2⟩; rw [Hy.out]
  replace hb2 := bnext hb1 hb2
  clear hc hf hz hb1
  obtain ⟨hc, hf⟩ := bcell hb2
  have hz := hb2.size
  simp only [World.size_alloc] at hc hf hz
  have k0 : w.heap.size < w2.heap.size := by omega
  have k1 : w.heap.size + 1 < w2.heap.size := by omega
  go_wp2_with fail
  refine (op_add a b c d _ a0 a1 (by omega) b1 c0 c1 (by omega) d1).mono ?_; rintro e w3 ⟨rfl, hb3⟩
  replace hb3 := bnext (hb2.alloc hb2.size _) hb3
  clear hc hf hz hb2 k0 k1 cm mm m1 m2 m3 m4 ml
  rw [← Hp.out, ← Hq.out]
  go_wp2_with fail
  refine (make_any p q _ hp.out.1 hp.out.2 hq.out.1 hq.out.2).mono ?_; rintro e w4 ⟨rfl, hb4⟩
  replace hb4 := bnext hb3 hb4
  clear hb3
  obtain ⟨hc, hf⟩ := bcell hb4
  have hz := hb4.size
  simp only [World.size_alloc] at hc hf hz
  obtain ⟨m, hm⟩ : ∃ m, m = mkN p q := ⟨_, rfl⟩
  rw [← hm]
  have Hm := Lib.hid hm
  clear hm
  obtain ⟨m1, m2, m3⟩ := m
  simp only [ratV]
  go_wp2
  refine bodyPost_ret (v := ratV (m1, m2, m3)) (by simp [results, Tryz.results99, go_sem, ratV, hc]) rfl ⟨by rw [← Hm.out], ?_⟩
  have hB : Below w.heap.size w w4 := ((((Below.refl _ _).alloc (Nat.le_refl _) _).alloc (by simp) _).alloc (by simp; omega) _).trans (hb4.mono (by simp; omega))
  exact (hB.setCell (by simp; omega) _).setCell (by simp; omega) _

set_option maxHeartbeats 1000000 in
/-- apply at two valid numbers: the closure that its table gives, then Make. -/
theorem apply_sub (a b c d : Int) (w : World) (hx : vldB a b = true) (hy : vldB c d = true) :
    Calls Tryz.prog 99 #[.int .u8 45, .agg #[.int .i64 a, .int .i64 b], .agg #[.int .i64 c, .int .i64 d]] w fun e w' => e = .returned (ratV (mkN (a * d - c * b) (b * d))) ∧ Below w.heap.size w w' := by
  obtain ⟨b0, b1, a0, a1, -⟩ := vld_bd hx
  obtain ⟨d0, d1, c0, c1, -⟩ := vld_bd hy
  have Hx := Lib.hid hx
  have Hy := Lib.hid hy
  clear hx hy
  have hp : Hid (-9223372036854775808 ≤ a * d - c * b ∧ a * d - c * b ≤ 9223372036854775807) := by
    have h1 := mulb a0 a1 (show -1073741824 ≤ d by omega) d1
    have h2 := mulb c0 c1 (show -1073741824 ≤ b by omega) b1
    have h3 := mulb a0 a1 c0 c1
    exact ⟨by omega, by omega⟩
  have hq : Hid (-9223372036854775808 ≤ b * d ∧ b * d ≤ 9223372036854775807) := by
    have h1 := mulb (show -1073741824 ≤ b by omega) b1 (show -1073741824 ≤ d by omega) d1
    have h2 := mulb (show -1073741824 ≤ b by omega) b1 c0 c1
    exact ⟨by omega, by omega⟩
  obtain ⟨p, Hp⟩ : ∃ p, Hid (p = a * d - c * b) := ⟨_, rfl⟩
  obtain ⟨q, Hq⟩ : ∃ q, Hid (q = b * d) := ⟨_, rfl⟩
  rw [← Hp.out] at hp
  rw [← Hq.out] at hq
  rw [← Hp.out, ← Hq.out]
  have mm := @run_makeMap Tryz.prog
  have m1 := @map_put1
  have m2 := @map_put2
  have m3 := @map_put3
  have m4 := @map_put4
  have ml := @map_get_sub
  have cm := @cell_map
  go_enter Tryz.func99, Tryz.ntmps99
  go_wp2_with fail
  refine (valid_any a b _ (by omega) (by omega) (by omega) (by omega)).mono ?_; rintro e w1 ⟨rfl, hb1⟩; rw [Hx.out]
  obtain ⟨hc, hf⟩ := bcell hb1
  have hz := hb1.size
  simp only [World.size_alloc] at hc hf hz
  go_wp2_with fail
  refine (valid_any c d _ (by omega) (by omega) (by omega) (by omega)).mono ?_; rintro e w2 ⟨rfl, hb2⟩; rw [Hy.out]
  replace hb2 := bnext hb1 hb2
  clear hc hf hz hb1
  obtain ⟨hc, hf⟩ := bcell hb2
  have hz := hb2.size
  simp only [World.size_alloc] at hc hf hz
  have k0 : w.heap.size < w2.heap.size := by omega
  have k1 : w.heap.size + 1 < w2.heap.size := by omega
  go_wp2_with fail
  refine (op_sub a b c d _ a0 a1 (by omega) b1 c0 c1 (by omega) d1).mono ?_; rintro e w3 ⟨rfl, hb3⟩
  replace hb3 := bnext (hb2.alloc hb2.size _) hb3
  clear hc hf hz hb2 k0 k1 cm mm m1 m2 m3 m4 ml
  rw [← Hp.out, ← Hq.out]
  go_wp2_with fail
  refine (make_any p q _ hp.out.1 hp.out.2 hq.out.1 hq.out.2).mono ?_; rintro e w4 ⟨rfl, hb4⟩
  replace hb4 := bnext hb3 hb4
  clear hb3
  obtain ⟨hc, hf⟩ := bcell hb4
  have hz := hb4.size
  simp only [World.size_alloc] at hc hf hz
  obtain ⟨m, hm⟩ : ∃ m, m = mkN p q := ⟨_, rfl⟩
  rw [← hm]
  have Hm := Lib.hid hm
  clear hm
  obtain ⟨m1, m2, m3⟩ := m
  simp only [ratV]
  go_wp2
  refine bodyPost_ret (v := ratV (m1, m2, m3)) (by simp [results, Tryz.results99, go_sem, ratV, hc]) rfl ⟨by rw [← Hm.out], ?_⟩
  have hB : Below w.heap.size w w4 := ((((Below.refl _ _).alloc (Nat.le_refl _) _).alloc (by simp) _).alloc (by simp; omega) _).trans (hb4.mono (by simp; omega))
  exact (hB.setCell (by simp; omega) _).setCell (by simp; omega) _

set_option maxHeartbeats 1000000 in
/-- apply at two valid numbers: the closure that its table gives, then Make. -/
theorem apply_mul (a b c d : Int) (w : World) (hx : vldB a b = true) (hy : vldB c d = true) :
    Calls Tryz.prog 99 #[.int .u8 42, .agg #[.int .i64 a, .int .i64 b], .agg #[.int .i64 c, .int .i64 d]] w fun e w' => e = .returned (ratV (mkN (a * c) (b * d))) ∧ Below w.heap.size w w' := by
  obtain ⟨b0, b1, a0, a1, -⟩ := vld_bd hx
  obtain ⟨d0, d1, c0, c1, -⟩ := vld_bd hy
  have Hx := Lib.hid hx
  have Hy := Lib.hid hy
  clear hx hy
  have hp : Hid (-9223372036854775808 ≤ a * c ∧ a * c ≤ 9223372036854775807) := by
    have h1 := mulb a0 a1 (show -1073741824 ≤ d by omega) d1
    have h2 := mulb c0 c1 (show -1073741824 ≤ b by omega) b1
    have h3 := mulb a0 a1 c0 c1
    exact ⟨by omega, by omega⟩
  have hq : Hid (-9223372036854775808 ≤ b * d ∧ b * d ≤ 9223372036854775807) := by
    have h1 := mulb (show -1073741824 ≤ b by omega) b1 (show -1073741824 ≤ d by omega) d1
    have h2 := mulb (show -1073741824 ≤ b by omega) b1 c0 c1
    exact ⟨by omega, by omega⟩
  obtain ⟨p, Hp⟩ : ∃ p, Hid (p = a * c) := ⟨_, rfl⟩
  obtain ⟨q, Hq⟩ : ∃ q, Hid (q = b * d) := ⟨_, rfl⟩
  rw [← Hp.out] at hp
  rw [← Hq.out] at hq
  rw [← Hp.out, ← Hq.out]
  have mm := @run_makeMap Tryz.prog
  have m1 := @map_put1
  have m2 := @map_put2
  have m3 := @map_put3
  have m4 := @map_put4
  have ml := @map_get_mul
  have cm := @cell_map
  go_enter Tryz.func99, Tryz.ntmps99
  go_wp2_with fail
  refine (valid_any a b _ (by omega) (by omega) (by omega) (by omega)).mono ?_; rintro e w1 ⟨rfl, hb1⟩; rw [Hx.out]
  obtain ⟨hc, hf⟩ := bcell hb1
  have hz := hb1.size
  simp only [World.size_alloc] at hc hf hz
  go_wp2_with fail
  refine (valid_any c d _ (by omega) (by omega) (by omega) (by omega)).mono ?_; rintro e w2 ⟨rfl, hb2⟩; rw [Hy.out]
  replace hb2 := bnext hb1 hb2
  clear hc hf hz hb1
  obtain ⟨hc, hf⟩ := bcell hb2
  have hz := hb2.size
  simp only [World.size_alloc] at hc hf hz
  have k0 : w.heap.size < w2.heap.size := by omega
  have k1 : w.heap.size + 1 < w2.heap.size := by omega
  go_wp2_with fail
  refine (op_mul a b c d _ a0 a1 (by omega) b1 c0 c1 (by omega) d1).mono ?_; rintro e w3 ⟨rfl, hb3⟩
  replace hb3 := bnext (hb2.alloc hb2.size _) hb3
  clear hc hf hz hb2 k0 k1 cm mm m1 m2 m3 m4 ml
  rw [← Hp.out, ← Hq.out]
  go_wp2_with fail
  refine (make_any p q _ hp.out.1 hp.out.2 hq.out.1 hq.out.2).mono ?_; rintro e w4 ⟨rfl, hb4⟩
  replace hb4 := bnext hb3 hb4
  clear hb3
  obtain ⟨hc, hf⟩ := bcell hb4
  have hz := hb4.size
  simp only [World.size_alloc] at hc hf hz
  obtain ⟨m, hm⟩ : ∃ m, m = mkN p q := ⟨_, rfl⟩
  rw [← hm]
  have Hm := Lib.hid hm
  clear hm
  obtain ⟨m1, m2, m3⟩ := m
  simp only [ratV]
  go_wp2
  refine bodyPost_ret (v := ratV (m1, m2, m3)) (by simp [results, Tryz.results99, go_sem, ratV, hc]) rfl ⟨by rw [← Hm.out], ?_⟩
  have hB : Below w.heap.size w w4 := ((((Below.refl _ _).alloc (Nat.le_refl _) _).alloc (by simp) _).alloc (by simp; omega) _).trans (hb4.mono (by simp; omega))
  exact (hB.setCell (by simp; omega) _).setCell (by simp; omega) _

set_option maxHeartbeats 1000000 in
/-- apply at two valid numbers: the closure that its table gives, then Make. -/
theorem apply_div (a b c d : Int) (w : World) (hx : vldB a b = true) (hy : vldB c d = true) :
    Calls Tryz.prog 99 #[.int .u8 47, .agg #[.int .i64 a, .int .i64 b], .agg #[.int .i64 c, .int .i64 d]] w fun e w' => e = .returned (ratV (mkN (a * d) (b * c))) ∧ Below w.heap.size w w' := by
  obtain ⟨b0, b1, a0, a1, -⟩ := vld_bd hx
  obtain ⟨d0, d1, c0, c1, -⟩ := vld_bd hy
  have Hx := Lib.hid hx
  have Hy := Lib.hid hy
  clear hx hy
  have hp : Hid (-9223372036854775808 ≤ a * d ∧ a * d ≤ 9223372036854775807) := by
    have h1 := mulb a0 a1 (show -1073741824 ≤ d by omega) d1
    have h2 := mulb c0 c1 (show -1073741824 ≤ b by omega) b1
    have h3 := mulb a0 a1 c0 c1
    exact ⟨by omega, by omega⟩
  have hq : Hid (-9223372036854775808 ≤ b * c ∧ b * c ≤ 9223372036854775807) := by
    have h1 := mulb (show -1073741824 ≤ b by omega) b1 (show -1073741824 ≤ d by omega) d1
    have h2 := mulb (show -1073741824 ≤ b by omega) b1 c0 c1
    exact ⟨by omega, by omega⟩
  obtain ⟨p, Hp⟩ : ∃ p, Hid (p = a * d) := ⟨_, rfl⟩
  obtain ⟨q, Hq⟩ : ∃ q, Hid (q = b * c) := ⟨_, rfl⟩
  rw [← Hp.out] at hp
  rw [← Hq.out] at hq
  rw [← Hp.out, ← Hq.out]
  have mm := @run_makeMap Tryz.prog
  have m1 := @map_put1
  have m2 := @map_put2
  have m3 := @map_put3
  have m4 := @map_put4
  have ml := @map_get_div
  have cm := @cell_map
  go_enter Tryz.func99, Tryz.ntmps99
  go_wp2_with fail
  refine (valid_any a b _ (by omega) (by omega) (by omega) (by omega)).mono ?_; rintro e w1 ⟨rfl, hb1⟩; rw [Hx.out]
  obtain ⟨hc, hf⟩ := bcell hb1
  have hz := hb1.size
  simp only [World.size_alloc] at hc hf hz
  go_wp2_with fail
  refine (valid_any c d _ (by omega) (by omega) (by omega) (by omega)).mono ?_; rintro e w2 ⟨rfl, hb2⟩; rw [Hy.out]
  replace hb2 := bnext hb1 hb2
  clear hc hf hz hb1
  obtain ⟨hc, hf⟩ := bcell hb2
  have hz := hb2.size
  simp only [World.size_alloc] at hc hf hz
  have k0 : w.heap.size < w2.heap.size := by omega
  have k1 : w.heap.size + 1 < w2.heap.size := by omega
  go_wp2_with fail
  refine (op_div a b c d _ a0 a1 (by omega) b1 c0 c1 (by omega) d1).mono ?_; rintro e w3 ⟨rfl, hb3⟩
  replace hb3 := bnext (hb2.alloc hb2.size _) hb3
  clear hc hf hz hb2 k0 k1 cm mm m1 m2 m3 m4 ml
  rw [← Hp.out, ← Hq.out]
  go_wp2_with fail
  refine (make_any p q _ hp.out.1 hp.out.2 hq.out.1 hq.out.2).mono ?_; rintro e w4 ⟨rfl, hb4⟩
  replace hb4 := bnext hb3 hb4
  clear hb3
  obtain ⟨hc, hf⟩ := bcell hb4
  have hz := hb4.size
  simp only [World.size_alloc] at hc hf hz
  obtain ⟨m, hm⟩ : ∃ m, m = mkN p q := ⟨_, rfl⟩
  rw [← hm]
  have Hm := Lib.hid hm
  clear hm
  obtain ⟨m1, m2, m3⟩ := m
  simp only [ratV]
  go_wp2
  refine bodyPost_ret (v := ratV (m1, m2, m3)) (by simp [results, Tryz.results99, go_sem, ratV, hc]) rfl ⟨by rw [← Hm.out], ?_⟩
  have hB : Below w.heap.size w w4 := ((((Below.refl _ _).alloc (Nat.le_refl _) _).alloc (by simp) _).alloc (by simp; omega) _).trans (hb4.mono (by simp; omega))
  exact (hB.setCell (by simp; omega) _).setCell (by simp; omega) _

set_option maxHeartbeats 1000000 in
/-- apply where one of the numbers is not valid. -/
theorem apply_bad (s a b c d : Int) (w : World) (h : (vldB a b && vldB c d) = false) (a0 : -9223372036854775808 ≤ a) (a1 : a ≤ 9223372036854775807) (b0 : -9223372036854775808 ≤ b) (b1 : b ≤ 9223372036854775807) (c0 : -9223372036854775808 ≤ c) (c1 : c ≤ 9223372036854775807) (d0 : -9223372036854775808 ≤ d) (d1 : d ≤ 9223372036854775807) :
    Calls Tryz.prog 99 #[.int .u8 s, .agg #[.int .i64 a, .int .i64 b], .agg #[.int .i64 c, .int .i64 d]] w fun e w' => e = .returned (ratV (0, 0, 2)) ∧ Below w.heap.size w w' := by
  cases hx : vldB a b
  · have Hx := Lib.hid hx
    clear hx h
    go_enter Tryz.func99, Tryz.ntmps99
    go_wp2_with fail
    refine (valid_any a b _ a0 a1 b0 b1).mono ?_; rintro e w1 ⟨rfl, hb1⟩; rw [Hx.out]
    obtain ⟨hc, hf⟩ := bcell hb1
    have hz := hb1.size
    simp only [World.size_alloc] at hc hf hz
    go_wp2
    refine bodyPost_ret (v := ratV (0, 0, 2)) (by simp [results, Tryz.results99, go_sem, ratV, hc]) rfl ⟨rfl, ?_⟩
    have hB : Below w.heap.size w w1 := ((((Below.refl _ _).alloc (Nat.le_refl _) _).alloc (by simp) _).alloc (by simp; omega) _).trans (hb1.mono (by simp; omega))
    exact (hB.setCell (by simp; omega) _).setCell (by simp; omega) _
  · have hy : vldB c d = false := by rw [hx] at h; simpa using h
    have Hx := Lib.hid hx
    have Hy := Lib.hid hy
    clear hx hy h
    go_enter Tryz.func99, Tryz.ntmps99
    go_wp2_with fail
    refine (valid_any a b _ a0 a1 b0 b1).mono ?_; rintro e w1 ⟨rfl, hb1⟩; rw [Hx.out]
    obtain ⟨hc, hf⟩ := bcell hb1
    have hz := hb1.size
    simp only [World.size_alloc] at hc hf hz
    go_wp2_with fail
    refine (valid_any c d _ c0 c1 d0 d1).mono ?_; rintro e w2 ⟨rfl, hb2⟩; rw [Hy.out]
    replace hb2 := bnext hb1 hb2
    clear hc hf hz hb1
    obtain ⟨hc, hf⟩ := bcell hb2
    have hz := hb2.size
    simp only [World.size_alloc] at hc hf hz
    go_wp2
    refine bodyPost_ret (v := ratV (0, 0, 2)) (by simp [results, Tryz.results99, go_sem, ratV, hc]) rfl ⟨rfl, ?_⟩
    have hB : Below w.heap.size w w2 := ((((Below.refl _ _).alloc (Nat.le_refl _) _).alloc (by simp) _).alloc (by simp; omega) _).trans (hb2.mono (by simp; omega))
    exact (hB.setCell (by simp; omega) _).setCell (by simp; omega) _

/-- What Add returns. -/
def addN (a b c d : Int) : Int × Int × Int := if vldB a b && vldB c d then mkN (a * d + c * b) (b * d) else (0, 0, 2)
theorem apply_add_any (a b c d : Int) (w : World) (a0 : -9223372036854775808 ≤ a) (a1 : a ≤ 9223372036854775807) (b0 : -9223372036854775808 ≤ b) (b1 : b ≤ 9223372036854775807) (c0 : -9223372036854775808 ≤ c) (c1 : c ≤ 9223372036854775807) (d0 : -9223372036854775808 ≤ d) (d1 : d ≤ 9223372036854775807) :
    Calls Tryz.prog 99 #[.int .u8 43, .agg #[.int .i64 a, .int .i64 b], .agg #[.int .i64 c, .int .i64 d]] w fun e w' => e = .returned (ratV (addN a b c d)) ∧ Below w.heap.size w w' := by
  unfold addN
  cases h : vldB a b && vldB c d
  · exact apply_bad _ a b c d w h a0 a1 b0 b1 c0 c1 d0 d1
  · rw [Bool.and_eq_true] at h; exact apply_add a b c d w h.1 h.2
set_option maxHeartbeats 400000 in
theorem add_any (a b c d : Int) (w : World) (a0 : -9223372036854775808 ≤ a) (a1 : a ≤ 9223372036854775807) (b0 : -9223372036854775808 ≤ b) (b1 : b ≤ 9223372036854775807) (c0 : -9223372036854775808 ≤ c) (c1 : c ≤ 9223372036854775807) (d0 : -9223372036854775808 ≤ d) (d1 : d ≤ 9223372036854775807) :
    Calls Tryz.prog 49 #[.agg #[.int .i64 a, .int .i64 b], .agg #[.int .i64 c, .int .i64 d]] w fun e w' => e = .returned (ratV (addN a b c d)) ∧ Below w.heap.size w w' := by
  obtain ⟨m, Hm⟩ : ∃ m, Hid (m = addN a b c d) := ⟨_, rfl⟩
  rw [← Hm.out]
  go_enter Tryz.func49, Tryz.ntmps49
  go_wp2_with fail
  refine (apply_add_any a b c d _ a0 a1 b0 b1 c0 c1 d0 d1).mono ?_; rintro e w1 ⟨rfl, hb⟩; rw [← Hm.out]
  obtain ⟨hc, hf⟩ := bcell hb
  have hz := hb.size
  simp only [World.size_alloc] at hc hf hz
  obtain ⟨m1, m2, m3⟩ := m
  simp only [ratV]
  go_wp2
  refine bodyPost_ret (v := ratV (m1, m2, m3)) (by simp [results, Tryz.results49, go_sem, ratV, hc]) rfl ⟨rfl, ?_⟩
  have hB : Below w.heap.size w w1 := by
    first
    | exact ((Below.refl _ _).alloc (Nat.le_refl _) _).trans (hb.mono (by simp))
    | exact (((Below.refl _ _).alloc (Nat.le_refl _) _).alloc (by simp) _).trans (hb.mono (by simp; omega))
    | exact ((((Below.refl _ _).alloc (Nat.le_refl _) _).alloc (by simp) _).alloc (by simp; omega) _).trans (hb.mono (by simp; omega))
  exact (hB.setCell (by simp; try omega) _).setCell (by simp; try omega) _

/-- What Sub returns. -/
def subN (a b c d : Int) : Int × Int × Int := if vldB a b && vldB c d then mkN (a * d - c * b) (b * d) else (0, 0, 2)
theorem apply_sub_any (a b c d : Int) (w : World) (a0 : -9223372036854775808 ≤ a) (a1 : a ≤ 9223372036854775807) (b0 : -9223372036854775808 ≤ b) (b1 : b ≤ 9223372036854775807) (c0 : -9223372036854775808 ≤ c) (c1 : c ≤ 9223372036854775807) (d0 : -9223372036854775808 ≤ d) (d1 : d ≤ 9223372036854775807) :
    Calls Tryz.prog 99 #[.int .u8 45, .agg #[.int .i64 a, .int .i64 b], .agg #[.int .i64 c, .int .i64 d]] w fun e w' => e = .returned (ratV (subN a b c d)) ∧ Below w.heap.size w w' := by
  unfold subN
  cases h : vldB a b && vldB c d
  · exact apply_bad _ a b c d w h a0 a1 b0 b1 c0 c1 d0 d1
  · rw [Bool.and_eq_true] at h; exact apply_sub a b c d w h.1 h.2
set_option maxHeartbeats 400000 in
theorem sub_any (a b c d : Int) (w : World) (a0 : -9223372036854775808 ≤ a) (a1 : a ≤ 9223372036854775807) (b0 : -9223372036854775808 ≤ b) (b1 : b ≤ 9223372036854775807) (c0 : -9223372036854775808 ≤ c) (c1 : c ≤ 9223372036854775807) (d0 : -9223372036854775808 ≤ d) (d1 : d ≤ 9223372036854775807) :
    Calls Tryz.prog 52 #[.agg #[.int .i64 a, .int .i64 b], .agg #[.int .i64 c, .int .i64 d]] w fun e w' => e = .returned (ratV (subN a b c d)) ∧ Below w.heap.size w w' := by
  obtain ⟨m, Hm⟩ : ∃ m, Hid (m = subN a b c d) := ⟨_, rfl⟩
  rw [← Hm.out]
  go_enter Tryz.func52, Tryz.ntmps52
  go_wp2_with fail
  refine (apply_sub_any a b c d _ a0 a1 b0 b1 c0 c1 d0 d1).mono ?_; rintro e w1 ⟨rfl, hb⟩; rw [← Hm.out]
  obtain ⟨hc, hf⟩ := bcell hb
  have hz := hb.size
  simp only [World.size_alloc] at hc hf hz
  obtain ⟨m1, m2, m3⟩ := m
  simp only [ratV]
  go_wp2
  refine bodyPost_ret (v := ratV (m1, m2, m3)) (by simp [results, Tryz.results52, go_sem, ratV, hc]) rfl ⟨rfl, ?_⟩
  have hB : Below w.heap.size w w1 := by
    first
    | exact ((Below.refl _ _).alloc (Nat.le_refl _) _).trans (hb.mono (by simp))
    | exact (((Below.refl _ _).alloc (Nat.le_refl _) _).alloc (by simp) _).trans (hb.mono (by simp; omega))
    | exact ((((Below.refl _ _).alloc (Nat.le_refl _) _).alloc (by simp) _).alloc (by simp; omega) _).trans (hb.mono (by simp; omega))
  exact (hB.setCell (by simp; try omega) _).setCell (by simp; try omega) _

/-- What Mul returns. -/
def mulN (a b c d : Int) : Int × Int × Int := if vldB a b && vldB c d then mkN (a * c) (b * d) else (0, 0, 2)
theorem apply_mul_any (a b c d : Int) (w : World) (a0 : -9223372036854775808 ≤ a) (a1 : a ≤ 9223372036854775807) (b0 : -9223372036854775808 ≤ b) (b1 : b ≤ 9223372036854775807) (c0 : -9223372036854775808 ≤ c) (c1 : c ≤ 9223372036854775807) (d0 : -9223372036854775808 ≤ d) (d1 : d ≤ 9223372036854775807) :
    Calls Tryz.prog 99 #[.int .u8 42, .agg #[.int .i64 a, .int .i64 b], .agg #[.int .i64 c, .int .i64 d]] w fun e w' => e = .returned (ratV (mulN a b c d)) ∧ Below w.heap.size w w' := by
  unfold mulN
  cases h : vldB a b && vldB c d
  · exact apply_bad _ a b c d w h a0 a1 b0 b1 c0 c1 d0 d1
  · rw [Bool.and_eq_true] at h; exact apply_mul a b c d w h.1 h.2
set_option maxHeartbeats 400000 in
theorem mul_any (a b c d : Int) (w : World) (a0 : -9223372036854775808 ≤ a) (a1 : a ≤ 9223372036854775807) (b0 : -9223372036854775808 ≤ b) (b1 : b ≤ 9223372036854775807) (c0 : -9223372036854775808 ≤ c) (c1 : c ≤ 9223372036854775807) (d0 : -9223372036854775808 ≤ d) (d1 : d ≤ 9223372036854775807) :
    Calls Tryz.prog 53 #[.agg #[.int .i64 a, .int .i64 b], .agg #[.int .i64 c, .int .i64 d]] w fun e w' => e = .returned (ratV (mulN a b c d)) ∧ Below w.heap.size w w' := by
  obtain ⟨m, Hm⟩ : ∃ m, Hid (m = mulN a b c d) := ⟨_, rfl⟩
  rw [← Hm.out]
  go_enter Tryz.func53, Tryz.ntmps53
  go_wp2_with fail
  refine (apply_mul_any a b c d _ a0 a1 b0 b1 c0 c1 d0 d1).mono ?_; rintro e w1 ⟨rfl, hb⟩; rw [← Hm.out]
  obtain ⟨hc, hf⟩ := bcell hb
  have hz := hb.size
  simp only [World.size_alloc] at hc hf hz
  obtain ⟨m1, m2, m3⟩ := m
  simp only [ratV]
  go_wp2
  refine bodyPost_ret (v := ratV (m1, m2, m3)) (by simp [results, Tryz.results53, go_sem, ratV, hc]) rfl ⟨rfl, ?_⟩
  have hB : Below w.heap.size w w1 := by
    first
    | exact ((Below.refl _ _).alloc (Nat.le_refl _) _).trans (hb.mono (by simp))
    | exact (((Below.refl _ _).alloc (Nat.le_refl _) _).alloc (by simp) _).trans (hb.mono (by simp; omega))
    | exact ((((Below.refl _ _).alloc (Nat.le_refl _) _).alloc (by simp) _).alloc (by simp; omega) _).trans (hb.mono (by simp; omega))
  exact (hB.setCell (by simp; try omega) _).setCell (by simp; try omega) _

/-- What Div returns. -/
def divN (a b c d : Int) : Int × Int × Int := if vldB a b && vldB c d then mkN (a * d) (b * c) else (0, 0, 2)
theorem apply_div_any (a b c d : Int) (w : World) (a0 : -9223372036854775808 ≤ a) (a1 : a ≤ 9223372036854775807) (b0 : -9223372036854775808 ≤ b) (b1 : b ≤ 9223372036854775807) (c0 : -9223372036854775808 ≤ c) (c1 : c ≤ 9223372036854775807) (d0 : -9223372036854775808 ≤ d) (d1 : d ≤ 9223372036854775807) :
    Calls Tryz.prog 99 #[.int .u8 47, .agg #[.int .i64 a, .int .i64 b], .agg #[.int .i64 c, .int .i64 d]] w fun e w' => e = .returned (ratV (divN a b c d)) ∧ Below w.heap.size w w' := by
  unfold divN
  cases h : vldB a b && vldB c d
  · exact apply_bad _ a b c d w h a0 a1 b0 b1 c0 c1 d0 d1
  · rw [Bool.and_eq_true] at h; exact apply_div a b c d w h.1 h.2
set_option maxHeartbeats 400000 in
theorem div_any (a b c d : Int) (w : World) (a0 : -9223372036854775808 ≤ a) (a1 : a ≤ 9223372036854775807) (b0 : -9223372036854775808 ≤ b) (b1 : b ≤ 9223372036854775807) (c0 : -9223372036854775808 ≤ c) (c1 : c ≤ 9223372036854775807) (d0 : -9223372036854775808 ≤ d) (d1 : d ≤ 9223372036854775807) :
    Calls Tryz.prog 78 #[.agg #[.int .i64 a, .int .i64 b], .agg #[.int .i64 c, .int .i64 d]] w fun e w' => e = .returned (ratV (divN a b c d)) ∧ Below w.heap.size w w' := by
  obtain ⟨m, Hm⟩ : ∃ m, Hid (m = divN a b c d) := ⟨_, rfl⟩
  rw [← Hm.out]
  go_enter Tryz.func78, Tryz.ntmps78
  go_wp2_with fail
  refine (apply_div_any a b c d _ a0 a1 b0 b1 c0 c1 d0 d1).mono ?_; rintro e w1 ⟨rfl, hb⟩; rw [← Hm.out]
  obtain ⟨hc, hf⟩ := bcell hb
  have hz := hb.size
  simp only [World.size_alloc] at hc hf hz
  obtain ⟨m1, m2, m3⟩ := m
  simp only [ratV]
  go_wp2
  refine bodyPost_ret (v := ratV (m1, m2, m3)) (by simp [results, Tryz.results78, go_sem, ratV, hc]) rfl ⟨rfl, ?_⟩
  have hB : Below w.heap.size w w1 := by
    first
    | exact ((Below.refl _ _).alloc (Nat.le_refl _) _).trans (hb.mono (by simp))
    | exact (((Below.refl _ _).alloc (Nat.le_refl _) _).alloc (by simp) _).trans (hb.mono (by simp; omega))
    | exact ((((Below.refl _ _).alloc (Nat.le_refl _) _).alloc (by simp) _).alloc (by simp; omega) _).trans (hb.mono (by simp; omega))
  exact (hB.setCell (by simp; try omega) _).setCell (by simp; try omega) _

end Go.Proofs.YtaanhddgmiggfaaGreat
