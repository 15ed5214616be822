/- Rows of regions and of partitions as they lie in memory. -/
import Derived.Test.YtdhofaiogbpjpaaBase
import Derived.Test.YtdhofaiogbpjpaaInvP
import Derived.Test.YtdhofaiogbpjpaaCfgO
namespace Go.Proofs.Ytdhofaiogbpjpaa
open Go.RowKit Go.Joins
namespace Me
abbrev rgV (x : Rg) : Value := .agg #[.int .i64 x.p, .int .i64 x.b, .int .i64 x.s]
/-- The regions that a slice reads. -/
def isG (A : Option Addr) (L : List Rg) (W : World) : Prop := L ≠ [] → ∃ b off, A = some ⟨b, off, none⟩ ∧ b < W.heap.size ∧ ∀ k x, L[k]? = some x → W.cell? ⟨b, off + k * 3, none⟩ = some (.int .i64 x.p) ∧ W.cell? ⟨b, off + k * 3 + 1, none⟩ = some (.int .i64 x.b) ∧ W.cell? ⟨b, off + k * 3 + 2, none⟩ = some (.int .i64 x.s)
theorem isG.same {A : Option Addr} {L : List Rg} {w w' : World} (h : isG A L w) (hb : ∀ a, A = some a → a.block < w.heap.size → w'.heap[a.block]? = w.heap[a.block]?) : isG A L w' := fun hz => by
  obtain ⟨b, off, e, hl, hr⟩ := h hz
  have hh := hb _ e hl
  have hl' : b < w'.heap.size := by
    rw [Array.getElem?_eq_getElem hl] at hh
    exact (Array.getElem?_eq_some_iff.1 hh).1
  have hc : ∀ j, w'.cell? ⟨b, j, none⟩ = w.cell? ⟨b, j, none⟩ := fun j => World.cell?_of_block (a := ⟨b, j, none⟩) hh
  exact ⟨b, off, e, hl', fun k x hk => by rw [hc, hc, hc]; exact hr k x hk⟩
theorem isG.keep {A : Option Addr} {L : List Rg} {w w' : World} (h : isG A L w) (hb : Below w.heap.size w w') : isG A L w' := h.same fun a _ hl => hb.block a.block hl
theorem isG.nil (A : Option Addr) (w : World) : isG A [] w := fun h => absurd rfl h
theorem isG.take {A : Option Addr} {L : List Rg} {w : World} (h : isG A L w) (n : Nat) : isG A (L.take n) w := fun hne => by
  obtain ⟨b, off, e, hl, hr⟩ := h (by rintro rfl; simp at hne)
  exact ⟨b, off, e, hl, fun k x hk => hr k x (by
    rw [List.getElem?_take] at hk
    split at hk
    · exact hk
    · cases hk)⟩
theorem isG.at {A : Option Addr} {L : List Rg} {W : World} (h : isG A L W) {k : Nat} {x : Rg} (hk : L[k]? = some x) : ∃ b off, A = some ⟨b, off, none⟩ ∧ b < W.heap.size ∧ W.cell? ⟨b, off + k * 3, none⟩ = some (.int .i64 x.p) ∧ W.cell? ⟨b, off + k * 3 + 1, none⟩ = some (.int .i64 x.b) ∧ W.cell? ⟨b, off + k * 3 + 2, none⟩ = some (.int .i64 x.s) := by
  obtain ⟨b, off, e, hl, hr⟩ := h (by rintro rfl; simp at hk)
  exact ⟨b, off, e, hl, hr k x hk⟩

theorem run_loadVar_sub {P : Program} (w : World) (g off : Nat) (ty : TypeId) (cs : Array Value) (d : TypeDesc) (hc : ∀ j v, cs[j]? = some v → w.cell? ⟨g, off + j, none⟩ = some v)
    (hu : P.underlying ty = some d) (hd : (match d with | .struct _ | .array _ _ => true | _ => false) = true) (hi : (P.info? ty).map (·.size) = some cs.size) :
    (loadVar ty ⟨g, off, none⟩).run P w = .ok (.agg cs) w := by
  have hl : (loadCells ⟨g, off, none⟩ cs.toList.length).run P w = .ok cs.toList.toArray w :=
    run_loadCells_list (P := P) w ⟨g, off, none⟩ cs.toList (fun j v hv => by
      rw [Addr.add_lit]
      exact hc j v (by simpa using hv))
  cases hq : P.info? ty with
  | none => simp [hq] at hi
  | some i =>
    have hs : i.size = cs.size := by simpa [hq] using hi
    have hagg : (isAgg ty).run P w = .ok true w := by
      unfold isAgg
      rw [Sem.run_bind, run_underlying hu w]
      cases d <;> simp_all
    simp only [Array.length_toList, Array.toArray_toList] at hl
    simp [loadVar, Sem.run_bind, hagg, sizeOf, typeInfo, hq, hs, hl]
theorem info_rg : (Try.prog.info? 45).map (·.size) = some 3 := by kernel_rfl
theorem load_rg {W : World} {b off : Nat} {x : Rg} (h : W.cell? ⟨b, off, none⟩ = some (.int .i64 x.p) ∧ W.cell? ⟨b, off + 1, none⟩ = some (.int .i64 x.b) ∧ W.cell? ⟨b, off + 2, none⟩ = some (.int .i64 x.s)) :
    (loadVar 45 ⟨b, off, none⟩).run Try.prog W = .ok (rgV x) W :=
  run_loadVar_sub W b off 45 #[.int .i64 x.p, .int .i64 x.b, .int .i64 x.s] _ (fun j v hv => by
    have hj : j < 3 := (Array.getElem?_eq_some_iff.1 hv).1
    have : j = 0 ∨ j = 1 ∨ j = 2 := by omega
    rcases this with rfl | rfl | rfl
    · cases hv; exact h.1
    · cases hv; exact h.2.1
    · cases hv; exact h.2.2) Try.underlying45 rfl info_rg

/-- The numbers of regions are ints. -/
def Bd (L : List Rg) : Prop := ∀ x ∈ L, (-9223372036854775808 ≤ x.p ∧ x.p ≤ 9223372036854775807) ∧ (-9223372036854775808 ≤ x.b ∧ x.b ≤ 9223372036854775807) ∧ (-9223372036854775808 ≤ x.s ∧ x.s ≤ 9223372036854775807)
/-- A partition as it lies in memory, whatever it is. -/
structure Pt where
  s : ByteArray
  a : Int
  b : Int
  z : Int
  A4 : Option Addr
  n4 : Nat
  c4 : Nat
  e : Int
  f : Int
  A7 : Option Addr
  n7 : Nat
  c7 : Nat
  A8 : Option Addr
  n8 : Nat
  c8 : Nat
  A9 : Option Addr
  n9 : Nat
  c9 : Nat
abbrev ptC (x : Pt) : Array Value := #[.string x.s, .int .i64 x.a, .int .i64 x.b, .int .i64 x.z, .slice x.A4 x.n4 x.c4, .int .i64 x.e, .int .i64 x.f, .slice x.A7 x.n7 x.c7, .slice x.A8 x.n8 x.c8, .slice x.A9 x.n9 x.c9]
abbrev ptV (x : Pt) : Value := .agg (ptC x)
/-- The partitions that a slice reads. -/
def isP (A : Option Addr) (L : List Pt) (W : World) : Prop := L ≠ [] → ∃ b off, A = some ⟨b, off, none⟩ ∧ b < W.heap.size ∧ ∀ k x, L[k]? = some x → ∀ (i : Nat) (v : Value), (ptC x)[i]? = some v → W.cell? ⟨b, off + k * 10 + i, none⟩ = some v
theorem isP.keep {A : Option Addr} {L : List Pt} {w w' : World} (h : isP A L w) (hb : Below w.heap.size w w') : isP A L w' := fun hz => by
  obtain ⟨b, off, e, hl, hr⟩ := h hz
  exact ⟨b, off, e, Nat.lt_of_lt_of_le hl hb.size, fun k x hk i v hv => (hb.cell (p := ⟨b, off + k * 10 + i, none⟩) hl).trans (hr k x hk i v hv)⟩
theorem isP.same {A : Option Addr} {L : List Pt} {w w' : World} (h : isP A L w) (hb : ∀ a, A = some a → a.block < w.heap.size → w'.heap[a.block]? = w.heap[a.block]?) : isP A L w' := fun hz => by
  obtain ⟨b, off, e, hl, hr⟩ := h hz
  have hh := hb _ e hl
  have hl' : b < w'.heap.size := by
    rw [Array.getElem?_eq_getElem hl] at hh
    exact (Array.getElem?_eq_some_iff.1 hh).1
  have hc : ∀ j, w'.cell? ⟨b, j, none⟩ = w.cell? ⟨b, j, none⟩ := fun j => World.cell?_of_block (a := ⟨b, j, none⟩) hh
  exact ⟨b, off, e, hl', fun k x hk i v hv => by rw [hc]; exact hr k x hk i v hv⟩
theorem isP.nil (A : Option Addr) (w : World) : isP A [] w := fun h => absurd rfl h
theorem info_pt : (Try.prog.info? 42).map (·.size) = some 10 := by kernel_rfl
theorem isP.at {A : Option Addr} {L : List Pt} {W : World} (h : isP A L W) {k : Nat} {x : Pt} (hk : L[k]? = some x) : ∃ b off, A = some ⟨b, off, none⟩ ∧ b < W.heap.size ∧ (∀ (i : Nat) (v : Value), (ptC x)[i]? = some v → W.cell? ⟨b, off + k * 10 + i, none⟩ = some v) ∧ (loadVar 42 ⟨b, off + k * 10, none⟩).run Try.prog W = .ok (ptV x) W := by
  obtain ⟨b, off, e, hl, hr⟩ := h (by rintro rfl; simp at hk)
  exact ⟨b, off, e, hl, hr k x hk, run_loadVar_sub W b (off + k * 10) 42 (ptC x) _ (hr k x hk) Try.underlying42 rfl info_pt⟩
theorem below_alloc_trans {w w' : World} {o : Obj} (hb : Below (w.alloc o).heap.size (w.alloc o) w') : Below w.heap.size w w' := ((Below.refl _ w).alloc (Nat.le_refl _) o).trans (hb.mono (by simp))
theorem below_allocs1 {B : Nat} {w X Y : World} {o : Obj} (hB : Below B w X) (h : B ≤ X.heap.size) (hb : Below (X.alloc o).heap.size (X.alloc o) Y) : Below B w Y := (hB.alloc h o).trans (hb.mono (by simp; omega))
/-- A module as it comes. -/
abbrev mdV (s : ByteArray) (mem fr : Int) (A : Option Addr) (n c : Nat) : Value := .agg #[.string s, .int .i64 mem, .int .i64 fr, .slice A n c]
end Me
end Go.Proofs.Ytdhofaiogbpjpaa
