/- Rows of things, each with its cells: how they are read, how they grow, how they come in. -/
import Derived.Test.YtdhofaiogbpjpaaTreeIn
namespace Go.Proofs.Ytdhofaiogbpjpaa
open Go.ChangeShapes Go.RowKit Go.Joins
namespace Tre

/-- Things with n cells each. -/
structure Knd (α : Type) where
  n : Nat
  enc : α → List Tr
  len : ∀ x, (enc x).length = n
  pos : 0 < n
/-- A slice of things. -/
def rowOf {α : Type} (k : Knd α) (l : List α) : Tr := .row l.length (l.flatMap k.enc)

section
variable {α : Type} {k : Knd α}
theorem flat_enc_len : ∀ l : List α, (l.flatMap k.enc).length = l.length * k.n
  | [] => by simp
  | x :: l => by
    rw [List.flatMap_cons, List.length_append, flat_enc_len l, k.len]
    simp [Nat.succ_mul, Nat.add_comm]
theorem flat_enc_at : ∀ (l : List α) (j : Nat) (x : α), l[j]? = some x → ((l.flatMap k.enc).drop (j * k.n)).take k.n = k.enc x
  | [], j, x, h => by simp at h
  | y :: l, 0, x, h => by
    simp only [List.getElem?_cons_zero, Option.some.injEq] at h
    subst h
    rw [List.flatMap_cons, Nat.zero_mul, List.drop_zero, List.take_append_of_le_length (by rw [k.len]; exact Nat.le_refl _), List.take_of_length_le (by rw [k.len]; exact Nat.le_refl _)]
  | y :: l, j + 1, x, h => by
    simp only [List.getElem?_cons_succ] at h
    rw [List.flatMap_cons, Nat.succ_mul, Nat.add_comm, List.drop_append, List.drop_of_length_le (by rw [k.len]; omega), k.len, Nat.add_sub_cancel_left, List.nil_append]
    exact flat_enc_at l j x h
theorem flat_enc_snoc (l : List α) (x : α) : (l ++ [x]).flatMap k.enc = l.flatMap k.enc ++ k.enc x := by simp
theorem flat_enc_get (l : List α) (j i : Nat) (x : α) (h : l[j]? = some x) (hi : i < k.n) : (l.flatMap k.enc)[j * k.n + i]? = (k.enc x)[i]? := by
  rw [← flat_enc_at l j x h, List.getElem?_take_of_lt hi, List.getElem?_drop]

variable {F : Nat → Prop} {W W' : World}
/-- Trees side by side, a part of them. -/
theorem LiesAll.part {ts : List Tr} {vs : List Value} (h : LiesAll F W ts vs) (a n : Nat) : LiesAll F W ((ts.drop a).take n) ((vs.drop a).take n) :=
  ⟨by simp [h.len], fun i t v ht hv => by
    rcases Nat.lt_or_ge i n with hi | hi
    · rw [List.getElem?_take_of_lt hi, List.getElem?_drop] at ht hv
      exact h.each _ t v ht hv
    · rw [List.getElem?_eq_none (by simp; omega)] at ht
      cases ht⟩
/-- What lies in a slice of things. -/
theorem Lies.elems {l : List α} {A : Option Addr} {m cap : Nat} (h : Lies F W (rowOf k l) (.slice A m cap)) (hne : l ≠ []) :
    ∃ b off, A = some ⟨b, off, none⟩ ∧ F b ∧ b < W.heap.size ∧ ∀ (j : Nat) (x : α), l[j]? = some x → ∃ us, us.length = k.n ∧ (∀ (i : Nat) (v : Value), us[i]? = some v → W.cell? ⟨b, off + j * k.n + i, none⟩ = some v) ∧ LiesAll F W (k.enc x) us := by
  obtain ⟨A', cap', he⟩ := Lies.is_slice h
  injection he with e1 e2 e3
  subst e1 e2 e3
  have hn : l.flatMap k.enc ≠ [] := fun e => by
    have := flat_enc_len (k := k) l
    rw [e] at this
    have h1 : 0 < l.length := List.length_pos_iff.2 hne
    have := Nat.mul_pos h1 k.pos
    simp at *
    omega
  obtain ⟨b, off, vs, hA, hF, hb, hc, hl⟩ := Lies.cells h hn
  refine ⟨b, off, hA, hF, hb, fun j x hx => ⟨(vs.drop (j * k.n)).take k.n, ?_, fun i v hv => ?_, ?_⟩⟩
  · have h1 := (hl.part (j * k.n) k.n).len
    rw [flat_enc_at l j x hx, k.len] at h1
    exact h1
  · have hi : i < k.n := by
      have := (List.getElem?_eq_some_iff.1 hv).1
      simp at this
      omega
    rw [List.getElem?_take_of_lt hi, List.getElem?_drop] at hv
    have := hc _ v hv
    rwa [← Nat.add_assoc] at this
  · have := hl.part (j * k.n) k.n
    rwa [flat_enc_at l j x hx] at this
/-- A slice of things: its length. -/
theorem Lies.rowOf_len {l : List α} {v : Value} (h : Lies F W (rowOf k l) v) : ∃ A cap, v = .slice A l.length cap := Lies.is_slice h
/-- A row of one's own grows: what it does not touch lies as it lay. -/
theorem Lies.grown {t : Tr} {v : Value} {r : Option Nat} (h : Lies F W t v) (hg : W.grownBy W' r) (hF : ∀ b, F b → some b ≠ r) : Lies F W' t v := h.keep (fun _ h => h) fun b hb hl => hg.block b hl (hF b hb)
theorem LiesAll.grown {ts : List Tr} {vs : List Value} {r : Option Nat} (h : LiesAll F W ts vs) (hg : W.grownBy W' r) (hF : ∀ b, F b → some b ≠ r) : LiesAll F W' ts vs := ⟨h.len, fun i t v ht hv => (h.each i t v ht hv).grown hg hF⟩

/-! ### A slice of things that is being made -/
/-- The slice v, a row of one's own, holds the things l. -/
structure Own (F : Nat → Prop) (base : Nat) (e : TypeId) (k : Knd α) (l : List α) (v : Value) (W : World) : Prop where
  row : ∃ vs, W.ownsRow base e k.n v l.length vs ∧ LiesAll F W (l.flatMap k.enc) vs
  far : ∀ g, v.ownBlock = some g → ¬ F g
theorem Own.nil (F : Nat → Prop) (base : Nat) (e : TypeId) (k : Knd α) (W : World) : Own F base e k [] (.slice none 0 0) W := ⟨⟨[], World.ownsRow_nil W base e k.n, by simpa using LiesAll.nil⟩, fun g h => by cases h⟩
/-- Another thing is appended. -/
theorem Own.snoc {base : Nat} {e : TypeId} {l : List α} {v v' : Value} {x : α} {vs us : List Value} (hF : ∀ g, v.ownBlock = some g → ¬ F g) (ht : LiesAll F W (l.flatMap k.enc) vs) (hx : LiesAll F W (k.enc x) us)
    (hg : W.grownBy W' v.ownBlock) (ho : W'.ownsRow base e k.n v' (l.length + 1) (vs ++ us)) (hv : ∀ g, v'.ownBlock = some g → ¬ F g) : Own F base e k (l ++ [x]) v' W' := by
  have hf : ∀ b, F b → some b ≠ v.ownBlock := fun b hb e => hF b e.symm hb
  refine ⟨⟨vs ++ us, by simpa using ho, ?_⟩, hv⟩
  rw [flat_enc_snoc]
  exact (ht.grown hg hf).append (hx.grown hg hf)
/-- It is finished: a slice of things. -/
theorem Own.done {F' : Nat → Prop} {base : Nat} {e : TypeId} {l : List α} {v : Value} (h : Own F base e k l v W) (hF : ∀ b, F b → F' b) (hv : ∀ g, v.ownBlock = some g → F' g) : Lies F' W (rowOf k l) v := by
  obtain ⟨vs, ho, ht⟩ := h.row
  exact Lies.of_own ho (ht.mono hF) hv
theorem Own.keep {base : Nat} {e : TypeId} {l : List α} {v : Value} (h : Own F base e k l v W) (hb : Below W.heap.size W W') : Own F base e k l v W' := by
  obtain ⟨vs, ho, ht⟩ := h.row
  refine ⟨⟨vs, ?_, ht.grow hb⟩, h.far⟩
  exact ho.kept (row := none) ⟨hb.os, hb.tape, hb.output, hb.size, fun k hk _ => hb.block k hk⟩ (by cases v.ownBlock <;> simp)

/-! ### What comes in -/
theorem OfAll.nil_inv {ts : List Tr} (h : OfAll [] ts) : ts = [] := List.length_eq_zero_iff.1 h.len
theorem OfAll.cons_inv {f : Ty} {fs : List Ty} {ts : List Tr} (h : OfAll (f :: fs) ts) : ∃ t us, ts = t :: us ∧ Of f t ∧ OfAll fs us := by
  match ts, h with
  | [], h => have := h.len; simp at this
  | t :: us, h => exact ⟨t, us, rfl, h.each 0 f t rfl rfl, by have := h.len; simpa using this, fun i g u hg hu => h.each (i + 1) g u (by simpa using hg) (by simpa using hu)⟩
theorem Of.int_inv {i : IntKind} {t : Tr} (h : Of (.int i) t) : ∃ n, t = .leaf (.int i n) := by cases h; exact ⟨_, rfl⟩
theorem Of.bool_inv {t : Tr} (h : Of .bool t) : ∃ b, t = .leaf (.bool b) := by cases h; exact ⟨_, rfl⟩
theorem Of.str_inv {t : Tr} (h : Of .str t) : ∃ s, t = .leaf (.string s) := by cases h; exact ⟨_, rfl⟩
theorem Of.int_wf {i : IntKind} {n : Int} (h : Of (.int i) (.leaf (.int i n))) : (Lit.int i n).wf = true := by cases h; assumption
theorem Of.str_le {s : ByteArray} (h : Of .str (.leaf (.string s))) : s.size ≤ maxLen := by cases h; assumption
theorem cut_enc {fs : List Ty} (hn : fs.length = k.n) (hi : ∀ ts, OfAll fs ts → ∃ x, ts = k.enc x) : ∀ (m : Nat) (xs : List Tr), xs.length = m * k.n →
    (∀ (j : Nat) (t : Tr) (f : Ty), xs[j]? = some t → fs[j % k.n]? = some f → Of f t) → ∃ l : List α, l.length = m ∧ xs = l.flatMap k.enc
  | 0, xs, hl, _ => ⟨[], rfl, by simpa using hl⟩
  | m + 1, xs, hl, h => by
    rw [Nat.succ_mul] at hl
    obtain ⟨x, hx⟩ := hi (xs.take k.n) ⟨by simp [hn]; omega, fun i f t hf ht => by
      have hlt : i < k.n := by rw [← hn]; exact (List.getElem?_eq_some_iff.1 hf).1
      rw [List.getElem?_take_of_lt hlt] at ht
      exact h i t f ht (by rwa [Nat.mod_eq_of_lt hlt])⟩
    obtain ⟨l, h1, h2⟩ := cut_enc hn hi m (xs.drop k.n) (by simp; omega) fun j t f ht hf => by
      rw [List.getElem?_drop] at ht
      exact h _ t f ht (by rwa [Nat.add_mod_left])
    exact ⟨x :: l, by simp [h1], by rw [List.flatMap_cons, ← hx, ← h2, List.take_append_drop]⟩
/-- A slice that came in holds things. -/
theorem Of.row_inv {fs : List Ty} {t : Tr} (hn : fs.length = k.n) (hi : ∀ ts, OfAll fs ts → ∃ x, ts = k.enc x) (h : Of (.row fs) t) : ∃ l : List α, t = rowOf k l := by
  cases h with
  | row _ m xs hm hl h =>
    rw [hn] at hl h
    obtain ⟨l, rfl, rfl⟩ := cut_enc hn hi m xs hl h
    exact ⟨l, rfl⟩
/-- Each thing of it is of its type. -/
theorem Of.row_each {fs : List Ty} {l : List α} (hn : fs.length = k.n) (h : Of (.row fs) (rowOf k l)) : l.length ≤ maxLen ∧ ∀ x ∈ l, OfAll fs (k.enc x) := by
  unfold rowOf at h
  cases h with
  | row _ m xs hm hl h =>
    refine ⟨hm, fun x hx => ⟨by rw [k.len, hn], fun i f t hf ht => ?_⟩⟩
    obtain ⟨j, hj, rfl⟩ := List.mem_iff_getElem.1 hx
    have hlt : i < k.n := by rw [← hn]; exact (List.getElem?_eq_some_iff.1 hf).1
    refine h (j * k.n + i) t f ?_ ?_
    · rw [flat_enc_get l j i _ (List.getElem?_eq_getElem hj) hlt]
      exact ht
    · rw [hn, Nat.mul_comm, Nat.mul_add_mod, Nat.mod_eq_of_lt hlt]
      exact hf
end
end Tre
end Go.Proofs.Ytdhofaiogbpjpaa
