/- Data with slices inside slices, as it lies in memory: a tree of cells. One law keeps all of it where nothing that it touches has turned. -/
import Derived.WalkKit
import Derived.Lib.SmallJoins
import Derived.Laws.CopyOwn
import Derived.Laws.Rows
import Derived.Below
import Derived.Deep.AppendLies
namespace Go.Proofs.Ytdhofaiogbpjpaa
open Go.RowKit Go.Joins
namespace Tre

/-- A cell's content: a plain value, or a slice of m elements with all their cells in a row. -/
inductive Tr where
  | leaf (v : Value)
  | row (m : Nat) (xs : List Tr)

/-- The tree t lies in memory as the value v; every block that it touches has the property F. -/
inductive Lies (F : Nat → Prop) (W : World) : Tr → Value → Prop
  | leaf (v : Value) : Lies F W (.leaf v) v
  | nil (A : Option Addr) (cap : Nat) : Lies F W (.row 0 []) (.slice A 0 cap)
  | row (m : Nat) (xs : List Tr) (b off cap : Nat) (vs : List Value) (hF : F b) (hb : b < W.heap.size) (hl : vs.length = xs.length)
      (hc : ∀ (i : Nat) (v : Value), vs[i]? = some v → W.cell? ⟨b, off + i, none⟩ = some v) (hs : ∀ (i : Nat) (t : Tr) (v : Value), xs[i]? = some t → vs[i]? = some v → Lies F W t v) : Lies F W (.row m xs) (.slice (some ⟨b, off, none⟩) m cap)

theorem Lies.keep {F F' : Nat → Prop} {W W' : World} {t : Tr} {v : Value} (h : Lies F W t v) (hF : ∀ b, F b → F' b) (hW : ∀ b, F b → b < W.heap.size → W'.heap[b]? = W.heap[b]?) : Lies F' W' t v := by
  induction h with
  | leaf v => exact .leaf v
  | nil A cap => exact .nil A cap
  | row m xs b off cap vs hFb hb hl hc hs ih =>
    have hh := hW b hFb hb
    have hb' : b < W'.heap.size := by
      rw [Array.getElem?_eq_getElem hb] at hh
      exact (Array.getElem?_eq_some_iff.1 hh).1
    exact .row m xs b off cap vs (hF b hFb) hb' hl (fun i v hv => (World.cell?_of_block (a := ⟨b, off + i, none⟩) hh).trans (hc i v hv)) ih

theorem Lies.grow {F : Nat → Prop} {W W' : World} {t : Tr} {v : Value} (h : Lies F W t v) (hb : Below W.heap.size W W') : Lies F W' t v := h.keep (fun _ h => h) fun b _ hl => hb.block b hl
theorem Lies.mono {F F' : Nat → Prop} {W : World} {t : Tr} {v : Value} (h : Lies F W t v) (hF : ∀ b, F b → F' b) : Lies F' W t v := h.keep hF fun _ _ _ => rfl
/-- All that a tree touches is there. -/
theorem Lies.inside {F : Nat → Prop} {W : World} {t : Tr} {v : Value} (h : Lies F W t v) : Lies (fun b => F b ∧ b < W.heap.size) W t v := by
  induction h with
  | leaf v => exact .leaf v
  | nil A cap => exact .nil A cap
  | row m xs b off cap vs hFb hb hl hc hs ih => exact .row m xs b off cap vs ⟨hFb, hb⟩ hb hl hc ih
/-- What a tree touches is none of the blocks that come later. -/
theorem Lies.old {F F' : Nat → Prop} {W : World} {t : Tr} {v : Value} (h : Lies F W t v) (hF : ∀ b, F b → b < W.heap.size → F' b) : Lies F' W t v := h.inside.mono fun b hb => hF b hb.1 hb.2

/-- Trees side by side. -/
structure LiesAll (F : Nat → Prop) (W : World) (ts : List Tr) (vs : List Value) : Prop where
  len : vs.length = ts.length
  each : ∀ (i : Nat) (t : Tr) (v : Value), ts[i]? = some t → vs[i]? = some v → Lies F W t v
section
variable {F F' : Nat → Prop} {W W' : World} {ts us : List Tr} {vs ws : List Value}
theorem LiesAll.nil : LiesAll F W [] [] := ⟨rfl, fun i t v h => by simp at h⟩
theorem LiesAll.cons {t : Tr} {v : Value} (h : Lies F W t v) (r : LiesAll F W ts vs) : LiesAll F W (t :: ts) (v :: vs) :=
  ⟨by simp [r.len], fun i x y hx hy => by
    cases i with
    | zero =>
      simp only [List.getElem?_cons_zero, Option.some.injEq] at hx hy
      rw [← hx, ← hy]; exact h
    | succ i =>
      simp only [List.getElem?_cons_succ] at hx hy
      exact r.each i x y hx hy⟩
theorem LiesAll.append (h : LiesAll F W ts vs) (r : LiesAll F W us ws) : LiesAll F W (ts ++ us) (vs ++ ws) :=
  ⟨by simp [h.len, r.len], fun i x y hx hy => by
    rcases Nat.lt_or_ge i ts.length with hi | hi
    · rw [List.getElem?_append_left hi] at hx
      rw [List.getElem?_append_left (by rw [h.len]; exact hi)] at hy
      exact h.each i x y hx hy
    · rw [List.getElem?_append_right hi] at hx
      rw [List.getElem?_append_right (by rw [h.len]; exact hi), h.len] at hy
      exact r.each _ x y hx hy⟩
theorem LiesAll.keep (h : LiesAll F W ts vs) (hF : ∀ b, F b → F' b) (hW : ∀ b, F b → b < W.heap.size → W'.heap[b]? = W.heap[b]?) : LiesAll F' W' ts vs := ⟨h.len, fun i t v ht hv => (h.each i t v ht hv).keep hF hW⟩
theorem LiesAll.grow (h : LiesAll F W ts vs) (hb : Below W.heap.size W W') : LiesAll F W' ts vs := ⟨h.len, fun i t v ht hv => (h.each i t v ht hv).grow hb⟩
theorem LiesAll.mono (h : LiesAll F W ts vs) (hF : ∀ b, F b → F' b) : LiesAll F' W ts vs := ⟨h.len, fun i t v ht hv => (h.each i t v ht hv).mono hF⟩
theorem LiesAll.old (h : LiesAll F W ts vs) (hF : ∀ b, F b → b < W.heap.size → F' b) : LiesAll F' W ts vs := ⟨h.len, fun i t v ht hv => (h.each i t v ht hv).old hF⟩
/-- Plain values. -/
theorem LiesAll.leaves (vs : List Value) : LiesAll F W (vs.map Tr.leaf) vs := ⟨by simp, fun i t v ht hv => by
  rw [List.getElem?_map, hv] at ht
  simp only [Option.map_some, Option.some.injEq] at ht
  rw [← ht]; exact .leaf v⟩
end
section
variable {F : Nat → Prop} {W : World} {m : Nat} {xs : List Tr} {v : Value}
theorem Lies.is_leaf {u : Value} (h : Lies F W (.leaf u) v) : v = u := by cases h; rfl
/-- A row's value is a slice. -/
theorem Lies.is_slice (h : Lies F W (.row m xs) v) : ∃ A cap, v = .slice A m cap := by
  cases h with
  | nil A cap => exact ⟨A, cap, rfl⟩
  | row _ _ b off cap => exact ⟨_, cap, rfl⟩
/-- What lies in a row: cells, and in them trees. -/
theorem Lies.cells {A : Option Addr} {cap : Nat} (h : Lies F W (.row m xs) (.slice A m cap)) (hne : xs ≠ []) :
    ∃ b off vs, A = some ⟨b, off, none⟩ ∧ F b ∧ b < W.heap.size ∧ (∀ (i : Nat) (v : Value), vs[i]? = some v → W.cell? ⟨b, off + i, none⟩ = some v) ∧ LiesAll F W xs vs := by
  cases h with
  | nil A cap => exact absurd rfl hne
  | row _ _ b off cap vs hFb hb hl hc hs => exact ⟨b, off, vs, rfl, hFb, hb, hc, hl, hs⟩
/-- A row of one's own, finished. -/
theorem Lies.of_own {base : Nat} {e : TypeId} {size n : Nat} {vs : List Value} {ts : List Tr} (h : W.ownsRow base e size v n vs) (ht : LiesAll F W ts vs) (hF : ∀ g, v.ownBlock = some g → F g) : Lies F W (.row n ts) v := by
  obtain ⟨hlen, hv⟩ := h
  rcases hv with ⟨rfl, rfl⟩ | ⟨g, cap, cur, rfl, hb, hg, hn, hcap, hcur, hx⟩
  · have : ts = [] := by
      have := ht.len
      rw [hlen] at this
      exact List.length_eq_zero_iff.1 (by omega)
    rw [this]
    exact .nil none 0
  · refine .row n ts g 0 cap vs (hF g rfl) (Array.getElem?_eq_some_iff.1 hg).1 ht.len (fun i u hu => ?_) ht.each
    rw [← hx] at hu
    have hi : i < n * size := by
      have := (List.getElem?_eq_some_iff.1 hu).1
      simp at this
      omega
    rw [List.getElem?_take_of_lt hi] at hu
    simp only [World.cell?, hg, Nat.zero_add]
    simpa using hu
end
end Tre
end Go.Proofs.Ytdhofaiogbpjpaa
